package lease_test

import (
	"cmp"
	"math"
	"slices"
	"testing"

	"headway/api"
	"headway/lease"
	"headway/samples"
)

// held returns the lease of a holder, until some time, with a pin.
func held(who, until, pin int) api.Lease { return api.Lease{Who: who, Until: until, Pin: pin} }

// all returns the leases of all 8 holders, the one at i replaced by x.
func all(i int, x api.Lease) []api.Lease {
	var l []api.Lease
	for who := range 8 {
		l = append(l, held(who, 9, 5))
	}
	l[i] = x
	return l
}

// small returns all the lists of up to 3 out of some leases, in order or not.
func small() [][]api.Lease { return samples.Lists(some(), 3) }

// some returns leases of 3 holders, with several times and pins.
func some() []api.Lease {
	var out []api.Lease
	for _, who := range []int{0, 1, 7} {
		for _, until := range []int{0, 4, 5} {
			for _, pin := range []int{0, 3} {
				out = append(out, held(who, until, pin))
			}
		}
	}
	return out
}

// taken is Take otherwise: x goes last, the holder's other lease goes, and the rest is sorted.
func taken(l []api.Lease, x api.Lease) []api.Lease {
	var out []api.Lease
	for _, y := range l {
		if y.Who != x.Who {
			out = append(out, y)
		}
	}
	out = append(out, x)
	slices.SortFunc(out, func(y, z api.Lease) int { return cmp.Compare(y.Who, z.Who) })
	return out
}

// live is Live otherwise: what is over is deleted.
func live(l []api.Lease, now int) []api.Lease {
	return slices.DeleteFunc(slices.Clone(l), func(x api.Lease) bool { return x.Until <= now })
}

// listCase: a list of leases, and the error that it deserves.
type listCase struct {
	name string
	l    []api.Lease
	want api.Errno
}

func listCases() []listCase {
	good := held(3, 9, 5)
	out := []listCase{
		{"nil", nil, api.OK},
		{"empty", []api.Lease{}, api.OK},
		{"empty with spare room", make([]api.Lease, 0, 9), api.OK},
		{"ordinary", []api.Lease{held(1, 4, 3), held(2, 9, 5)}, api.OK},
		{"holders apart", []api.Lease{held(0, 4, 3), held(7, 9, 5)}, api.OK},
		{"falling times and pins", []api.Lease{held(1, 9, 5), held(2, 4, 3)}, api.OK},
		{"all 8 holders", all(0, held(0, 9, 5)), api.OK},
		{"one holder twice", []api.Lease{good, good}, api.ErrForm},
		{"one holder twice, of zeros", make([]api.Lease, 2), api.ErrForm},
		{"one holder twice, with another time", []api.Lease{good, held(3, 10, 6)}, api.ErrForm},
		{"a holder less by one", []api.Lease{good, held(2, 9, 5)}, api.ErrForm},
		{"the least holder last", []api.Lease{good, held(0, 9, 5)}, api.ErrForm},
		{"less than the one before it, though not than the first", []api.Lease{held(1, 9, 5), held(5, 9, 5), held(4, 9, 5)}, api.ErrForm},
		{"the first holder comes again", []api.Lease{held(1, 9, 5), held(5, 9, 5), held(1, 9, 5)}, api.ErrForm},
		{"the last of all 8 twice", append(all(0, held(0, 9, 5)), held(7, 9, 5)), api.ErrForm},
		{"a ninth holder", append(all(0, held(0, 9, 5)), held(8, 9, 5)), api.ErrArg},
		{"very many", make([]api.Lease, 5000), api.ErrForm},
		{"very many, wrong", slices.Repeat([]api.Lease{held(8, 0, 0)}, 5000), api.ErrArg},
		{"a lease's numbers ahead of its order", []api.Lease{good, held(3, 9, -1)}, api.ErrArg},
		{"a lease's numbers ahead of its order, though it is less", []api.Lease{good, held(1, -1, 5)}, api.ErrArg},
		{"a negative holder, which is out of order too", []api.Lease{good, held(-1, 9, 5)}, api.ErrArg},
		{"a lease's order ahead of the next one's numbers", []api.Lease{good, good, held(8, 9, 5)}, api.ErrForm},
		{"a lease's numbers ahead of the next one's order", []api.Lease{good, held(8, 9, 5), good}, api.ErrArg},
	}
	for _, x := range leaseCases() {
		out = append(out, listCase{x.name, []api.Lease{x.x}, x.want})
		if x.want != api.OK {
			out = append(out,
				listCase{x.name + ", first of 8", all(0, x.x), x.want},
				listCase{x.name + ", last of 8", all(7, x.x), x.want})
		}
	}
	return out
}

// leaseCase: a lease, and the error that it deserves.
type leaseCase struct {
	name string
	x    api.Lease
	want api.Errno
}

func leaseCases() []leaseCase {
	return []leaseCase{
		{"a lease", held(2, 9, 5), api.OK},
		{"a lease of zeros", api.Lease{}, api.OK},
		{"a lease of the most", held(7, 1000000, 1000000), api.OK},
		{"a pin after the time", held(2, 5, 9), api.OK},
		{"a negative holder", held(-1, 9, 5), api.ErrArg},
		{"a holder too great by one", held(8, 9, 5), api.ErrArg},
		{"the least holder of all", held(math.MinInt, 9, 5), api.ErrArg},
		{"the greatest holder of all", held(math.MaxInt, 9, 5), api.ErrArg},
		{"a negative time", held(2, -1, 5), api.ErrArg},
		{"a time too great by one", held(2, 1000001, 5), api.ErrArg},
		{"the least time of all", held(2, math.MinInt, 5), api.ErrArg},
		{"the greatest time of all", held(2, math.MaxInt, 5), api.ErrArg},
		{"a negative pin", held(2, 9, -1), api.ErrArg},
		{"a pin too great by one", held(2, 9, 1000001), api.ErrArg},
		{"the least pin of all", held(2, 9, math.MinInt), api.ErrArg},
		{"the greatest pin of all", held(2, 9, math.MaxInt), api.ErrArg},
	}
}

func TestCheck(t *testing.T) { // P59
	for _, x := range listCases() {
		if e := lease.Check(x.l); e != x.want {
			t.Errorf("%s: %d, not %d", x.name, e, x.want)
		}
	}
	for _, l := range small() {
		want := api.OK
		for i := 1; i < len(l); i++ {
			if l[i].Who <= l[i-1].Who {
				want = api.ErrForm
			}
		}
		if e := lease.Check(l); e != want {
			t.Fatalf("%v: %d, not %d", l, e, want)
		}
	}
}

// TestErrors: a list's own error goes ahead of all others, and with any error, all else is zero.
func TestErrors(t *testing.T) { // P60, P61, P62
	for _, x := range listCases() {
		for _, y := range leaseCases() {
			want := cmp.Or(x.want, y.want)
			if got, e := lease.Take(x.l, y.x); e != want || (e == api.OK) != (len(got) > 0) {
				t.Errorf("take: %s, %s: %v %d, not %d", x.name, y.name, got, e, want)
			}
		}
		for _, now := range []int{math.MinInt, -1, 0, 8, 9, 1000000, math.MaxInt} {
			got, e := lease.Live(x.l, now)
			if e != x.want || e != api.OK && len(got) > 0 {
				t.Errorf("live: %s, %d: %v %d, not %d", x.name, now, got, e, x.want)
			}
			want := x.want
			if want == api.OK && len(got) == 0 {
				want = api.ErrNone
			}
			if pin, e := lease.Pin(x.l, now); e != want || e != api.OK && pin != 0 {
				t.Errorf("pin: %s, %d: %d %d, not %d", x.name, now, pin, e, want)
			}
			for _, to := range []int{math.MinInt, -1, 1000001, math.MaxInt} {
				if got, e := lease.Cut(x.l, now, to); e != cmp.Or(x.want, api.ErrArg) || len(got) > 0 {
					t.Errorf("cut: %s, %d, %d: %v %d", x.name, now, to, got, e)
				}
			}
			if got, e := lease.Cut(x.l, now, 0); e != x.want || e != api.OK && len(got) > 0 {
				t.Errorf("cut: %s, %d: %v %d, not %d", x.name, now, got, e, x.want)
			}
		}
	}
}

func TestTake(t *testing.T) { // P60
	a, b, c := held(1, 4, 3), held(3, 9, 5), held(6, 2, 8)
	for _, x := range []struct {
		name string
		l    []api.Lease
		x    api.Lease
		want []api.Lease
	}{
		{"the first of all", nil, a, []api.Lease{a}},
		{"ahead of others", []api.Lease{b, c}, a, []api.Lease{a, b, c}},
		{"amid others", []api.Lease{a, c}, b, []api.Lease{a, b, c}},
		{"after others", []api.Lease{a, b}, c, []api.Lease{a, b, c}},
		{"the least holder", []api.Lease{a, b}, held(0, 1, 1), []api.Lease{held(0, 1, 1), a, b}},
		{"the greatest holder", []api.Lease{a, b}, held(7, 1, 1), []api.Lease{a, b, held(7, 1, 1)}},
		{"in the stead of the only one", []api.Lease{a}, held(1, 7, 9), []api.Lease{held(1, 7, 9)}},
		{"in the stead of the first", []api.Lease{a, b, c}, held(1, 7, 9), []api.Lease{held(1, 7, 9), b, c}},
		{"in the stead of one amid others", []api.Lease{a, b, c}, held(3, 7, 9), []api.Lease{a, held(3, 7, 9), c}},
		{"in the stead of the last", []api.Lease{a, b, c}, held(6, 7, 9), []api.Lease{a, b, held(6, 7, 9)}},
		{"in the stead of itself", []api.Lease{a, b, c}, b, []api.Lease{a, b, c}},
		{"a sooner time and a lower pin replace too", []api.Lease{a, b}, held(3, 0, 0), []api.Lease{a, held(3, 0, 0)}},
		{"one of all 8", all(0, held(0, 9, 5)), held(4, 7, 9), all(4, held(4, 7, 9))},
		{"the last of all 8", all(0, held(0, 9, 5))[:7], held(7, 9, 5), all(0, held(0, 9, 5))},
		{"the most", []api.Lease{a}, held(7, 1000000, 1000000), []api.Lease{a, held(7, 1000000, 1000000)}},
	} {
		if got, e := lease.Take(x.l, x.x); e != api.OK || !slices.Equal(got, x.want) {
			t.Errorf("%s: %v %d, not %v", x.name, got, e, x.want)
		}
	}
}

func TestLive(t *testing.T) { // P61
	a, b, c := held(1, 4, 3), held(2, 9, 5), held(6, 4, 8)
	for _, x := range []struct {
		name string
		l    []api.Lease
		now  int
		want []api.Lease
	}{
		{"no leases", nil, 0, nil},
		{"all", []api.Lease{a, b, c}, 3, []api.Lease{a, b, c}},
		{"those until now are over", []api.Lease{a, b, c}, 4, []api.Lease{b}},
		{"the last time of one", []api.Lease{a, b, c}, 8, []api.Lease{b}},
		{"none", []api.Lease{a, b, c}, 9, nil},
		{"until time 0 is over at time 0", []api.Lease{held(0, 0, 0), a}, 0, []api.Lease{a}},
		{"until time 0 is live ahead of it", []api.Lease{held(0, 0, 0), a}, -1, []api.Lease{held(0, 0, 0), a}},
		{"long ahead", []api.Lease{a, b}, math.MinInt, []api.Lease{a, b}},
		{"the greatest time", []api.Lease{a, held(7, 1000000, 0)}, 999999, []api.Lease{held(7, 1000000, 0)}},
		{"at the greatest time", []api.Lease{a, held(7, 1000000, 0)}, 1000000, nil},
		{"long after", []api.Lease{a, b}, math.MaxInt, nil},
		{"a pin is no time", []api.Lease{held(1, 3, 9)}, 3, nil},
	} {
		if got, e := lease.Live(x.l, x.now); e != api.OK || !slices.Equal(got, x.want) {
			t.Errorf("%s: %v %d, not %v", x.name, got, e, x.want)
		}
	}
}

func TestPin(t *testing.T) { // P61
	a, b, c := held(1, 4, 3), held(2, 9, 5), held(6, 4, 8)
	for _, x := range []struct {
		name string
		l    []api.Lease
		now  int
		want int
		e    api.Errno
	}{
		{"no leases", nil, 0, 0, api.ErrNone},
		{"the first's", []api.Lease{a, b, c}, 3, 3, api.OK},
		{"the last's", []api.Lease{b, held(7, 9, 4)}, 3, 4, api.OK},
		{"one amid others", []api.Lease{b, held(3, 9, 4), c}, 3, 4, api.OK},
		{"not that of one that is over", []api.Lease{a, b, c}, 4, 5, api.OK},
		{"all are over", []api.Lease{a, b, c}, 9, 0, api.ErrNone},
		{"at the start of the log", []api.Lease{b, held(3, 9, 0)}, 8, 0, api.OK},
		{"the smallest, though it is over first", []api.Lease{held(0, 9, 7), held(1, 1, 2)}, 0, 2, api.OK},
		{"equal pins", []api.Lease{held(0, 9, 7), held(1, 9, 7)}, 0, 7, api.OK},
		{"the greatest", []api.Lease{held(7, 1000000, 1000000)}, 999999, 1000000, api.OK},
		{"long ahead", []api.Lease{held(0, 0, 6)}, math.MinInt, 6, api.OK},
		{"long after", []api.Lease{held(7, 1000000, 1000000)}, math.MaxInt, 0, api.ErrNone},
	} {
		if got, e := lease.Pin(x.l, x.now); e != x.e || got != x.want {
			t.Errorf("%s: %d %d, not %d %d", x.name, got, e, x.want, x.e)
		}
	}
}

func TestCut(t *testing.T) { // P62
	a, b, c := held(1, 4, 3), held(2, 9, 5), held(6, 4, 8)
	for _, x := range []struct {
		name    string
		l       []api.Lease
		now, to int
		want    []api.Lease
		e       api.Errno
	}{
		{"the document's", []api.Lease{held(1, 4, 3)}, 3, 4, nil, api.ErrThere},
		{"up to a pin", []api.Lease{a, b, c}, 3, 3, []api.Lease{a, b, c}, api.OK},
		{"past a pin by one", []api.Lease{a, b, c}, 3, 4, nil, api.ErrThere},
		{"past a pin that is over", []api.Lease{a, b, c}, 4, 5, []api.Lease{b}, api.OK},
		{"past the live pin", []api.Lease{a, b, c}, 4, 6, nil, api.ErrThere},
		{"past a pin that is not the first", []api.Lease{c, held(7, 9, 2)}, 0, 3, nil, api.ErrThere},
		{"nothing is cut, and those that are over go", []api.Lease{a, b, c}, 4, 0, []api.Lease{b}, api.OK},
		{"none is live", []api.Lease{a, b, c}, 9, 1000000, nil, api.OK},
		{"no leases", nil, 0, 1000000, nil, api.OK},
		{"all up to the greatest pin", []api.Lease{held(7, 9, 1000000)}, 0, 1000000, []api.Lease{held(7, 9, 1000000)}, api.OK},
		{"past the start of the log", []api.Lease{held(7, 9, 0)}, 0, 1, nil, api.ErrThere},
		{"the start of the log", []api.Lease{held(7, 9, 0)}, 0, 0, []api.Lease{held(7, 9, 0)}, api.OK},
		{"a negative position", []api.Lease{a}, 0, -1, nil, api.ErrArg},
		{"a position too great by one, with no leases", nil, 0, 1000001, nil, api.ErrArg},
		{"a position too great ahead of a pin", []api.Lease{a}, 0, 1000001, nil, api.ErrArg},
		{"a list's error ahead of a position's", []api.Lease{a, a}, 0, -1, nil, api.ErrForm},
		{"a list's error ahead of a pin", []api.Lease{a, a}, 0, 4, nil, api.ErrForm},
	} {
		if got, e := lease.Cut(x.l, x.now, x.to); e != x.e || !slices.Equal(got, x.want) {
			t.Errorf("%s: %v %d, not %v %d", x.name, got, e, x.want, x.e)
		}
	}
}

// TestSmall holds the answers about every small list that is right against those that are reckoned otherwise.
func TestSmall(t *testing.T) { // P60, P61, P62
	for _, l := range small() {
		if lease.Check(l) != api.OK {
			continue
		}
		for _, x := range some() {
			want := taken(l, x)
			if got, e := lease.Take(l, x); e != api.OK || !slices.Equal(got, want) {
				t.Fatalf("take: %v, %v: %v %d, not %v", l, x, got, e, want)
			}
		}
		for now := -1; now <= 6; now++ {
			left := live(l, now)
			if got, e := lease.Live(l, now); e != api.OK || !slices.Equal(got, left) {
				t.Fatalf("live: %v, %d: %v %d, not %v", l, now, got, e, left)
			}
			askPin(t, l, now, left)
		}
	}
}

// askPin holds Pin and Cut against the leases of l that are left at now: just up to the pin may be cut, or all if there is none.
func askPin(t *testing.T, l []api.Lease, now int, left []api.Lease) {
	pin, e := lease.Pin(l, now)
	free := 1000000
	if len(left) == 0 {
		if e != api.ErrNone || pin != 0 {
			t.Fatalf("pin: %v, %d: %d %d", l, now, pin, e)
		}
	} else {
		for _, x := range left {
			free = min(free, x.Pin)
		}
		if e != api.OK || pin != free {
			t.Fatalf("pin: %v, %d: %d %d, not %d", l, now, pin, e, free)
		}
	}
	for _, to := range []int{0, 1, 2, 3, 4, 999999, 1000000} {
		want, wantE := left, api.OK
		if to > free {
			want, wantE = nil, api.ErrThere
		}
		if got, e := lease.Cut(l, now, to); e != wantE || !slices.Equal(got, want) {
			t.Fatalf("cut: %v, %d, %d: %v %d, not %v %d", l, now, to, got, e, want, wantE)
		}
	}
}

func TestNothingPanics(t *testing.T) { // P1
	numbers := append(samples.Numbers(), 7, 8)
	for _, who := range numbers {
		for _, until := range numbers {
			for _, pin := range numbers {
				x := held(who, until, pin)
				l := []api.Lease{x, held(7, 60, 3)}
				want := lease.Check(l)
				for _, n := range numbers {
					if got, e := lease.Live(l, n); e != want || e != api.OK && len(got) > 0 {
						t.Fatalf("live: %v, %d: %v %d, not %d", l, n, got, e, want)
					}
					if at, e := lease.Pin(l, n); want != api.OK && e != want || e != api.OK && at != 0 {
						t.Fatalf("pin: %v, %d: %d %d, not %d", l, n, at, e, want)
					}
					if got, e := lease.Cut(l, n, pin); want != api.OK && e != want || e != api.OK && len(got) > 0 {
						t.Fatalf("cut: %v, %d: %v %d, not %d", l, n, got, e, want)
					}
					if got, e := lease.Cut(l, until, n); want != api.OK && e != want || e != api.OK && len(got) > 0 {
						t.Fatalf("cut: %v to %d: %v %d, not %d", l, n, got, e, want)
					}
				}
				for _, to := range [][]api.Lease{nil, l, l[1:], all(0, x)} {
					want := cmp.Or(lease.Check(to), lease.Check(l[:1]))
					if got, e := lease.Take(to, x); e != want || (e == api.OK) != (len(got) > 0) {
						t.Fatalf("take: %v, %v: %v %d, not %d", to, x, got, e, want)
					}
				}
			}
		}
	}
}

// calls returns calls of all functions that answer with leases, of holders ahead of, amid and after those of a list, and at times at which more and more of it is over.
func calls() []func(l []api.Lease) ([]api.Lease, api.Errno) {
	var out []func(l []api.Lease) ([]api.Lease, api.Errno)
	for _, who := range []int{0, 1, 2, 3, 4, 5, 6} {
		out = append(out, func(l []api.Lease) ([]api.Lease, api.Errno) { return lease.Take(l, held(who, 8, 8)) })
	}
	for _, now := range []int{0, 3, 4} {
		out = append(out,
			func(l []api.Lease) ([]api.Lease, api.Errno) { return lease.Live(l, now) },
			func(l []api.Lease) ([]api.Lease, api.Errno) { return lease.Cut(l, now, 2) })
	}
	return out
}

func TestArgumentsStay(t *testing.T) { // P2
	room := []api.Lease{held(1, 9, 5), held(3, 4, 2), held(5, 3, 7), held(6, 9, 0), held(-7, -7, -7)}
	before := slices.Clone(room)
	l := room[:3]
	for i, call := range calls() {
		got, e := call(l)
		other, _ := call(l)
		want := slices.Clone(other)
		if e != api.OK || len(got) == 0 || !slices.Equal(got, want) || slices.Contains(got, room[3]) {
			t.Errorf("call %d: %v %d, and %v", i, got, e, want)
		}
		got = got[:cap(got)]
		for k := range got {
			got[k] = held(-5, -5, -5)
		}
		if !slices.Equal(other, want) {
			t.Errorf("call %d: results share memory: %v", i, other)
		}
		if !slices.Equal(room, before) {
			t.Fatalf("call %d: an argument has changed: %v", i, room)
		}
	}
	if pin, e := lease.Pin(l, 0); pin != 2 || e != api.OK {
		t.Errorf("the spare room counts: %d %d", pin, e)
	}
	if e := lease.Check(l); e != api.OK {
		t.Errorf("the spare room counts: %d", e)
	}
	if !slices.Equal(room, before) {
		t.Errorf("an argument has changed: %v", room)
	}
}
