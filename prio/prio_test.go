package prio_test

import (
	"math"
	"slices"
	"testing"

	"headway/api"
	"headway/conv"
	"headway/curve"
	"headway/line"
	"headway/prio"
	"headway/samples"
	"headway/trace"
)

// rates returns rates within their bounds.
func rates() []int { return []int{0, 1, 2, 3, 5, 9, 9999, 10000} }

// pairs returns all pairs of traces of one length, of up to 4 slots with 0, 1 or 4 each, and some longer ones.
func pairs() [][2][]int {
	var out [][2][]int
	for _, a := range samples.Traces() {
		for _, b := range samples.Traces() {
			if len(a) == len(b) && len(a) != 5 {
				out = append(out, [2][]int{a, b})
			}
		}
	}
	return out
}

// run is Run by the chapter's words, one by one: each of the second leaves only if the slot has room and none of the first waits.
func run(first, second []int, rate int) (one, two []int) {
	waitsOne, waitsTwo := 0, 0
	for i := range first {
		waitsOne += first[i]
		waitsTwo += second[i]
		leavesOne, leavesTwo := 0, 0
		for leavesOne+leavesTwo < rate && waitsOne+waitsTwo > 0 {
			if waitsOne > 0 {
				waitsOne--
				leavesOne++
			} else {
				waitsTwo--
				leavesTwo++
			}
		}
		one, two = append(one, leavesOne), append(two, leavesTwo)
	}
	return one, two
}

// left is Left by the words of the chapters: at each time, the most that the rate was ahead of limit so far.
func left(limit []int, rate int) []int {
	var out []int
	for t := range limit {
		most := 0
		for s := range t + 1 {
			most = max(most, s*rate-limit[s])
		}
		out = append(out, most)
	}
	return out
}

// wantRun returns the error of Run by the chapter's words.
func wantRun(first, second []int, rate int) api.Errno {
	if e := trace.Check(first); e != api.OK {
		return e
	}
	if rate < 0 || rate > 10000 {
		return api.ErrArg
	}
	if e := trace.Check(second); e != api.OK {
		return e
	}
	if len(first) != len(second) {
		return api.ErrLen
	}
	return api.OK
}

func TestRun(t *testing.T) { // P36
	for _, x := range []struct {
		name          string
		first, second []int
		rate          int
		one, two      []int
	}{
		{"the document's", []int{3}, []int{1}, 2, []int{2}, []int{0}},
		{"the document's, and what follows", []int{3, 0, 0}, []int{4, 0, 0}, 2, []int{2, 1, 0}, []int{0, 1, 2}},
		{"no slots", nil, nil, 2, nil, nil},
		{"no slots, nil and empty", nil, []int{}, 2, nil, nil},
		{"nothing comes", []int{0, 0}, []int{0, 0}, 2, []int{0, 0}, []int{0, 0}},
		{"only the first", []int{3, 0}, []int{0, 0}, 2, []int{2, 1}, []int{0, 0}},
		{"only the second", []int{0, 0}, []int{3, 0}, 2, []int{0, 0}, []int{2, 1}},
		{"both leave in their slot", []int{1, 2}, []int{1, 0}, 2, []int{1, 2}, []int{1, 0}},
		{"the first takes all of the rate, just so", []int{2}, []int{1}, 2, []int{2}, []int{0}},
		{"the first leaves one of the rate", []int{1}, []int{5}, 2, []int{1}, []int{1}},
		{"the second waits as long as the first comes", []int{2, 2, 2, 0}, []int{1, 0, 0, 0}, 2, []int{2, 2, 2, 0}, []int{0, 0, 0, 1}},
		{"a first that comes later goes ahead", []int{0, 3, 0}, []int{5, 0, 0}, 3, []int{0, 3, 0}, []int{3, 0, 2}},
		{"the rate that neither takes is lost", []int{0, 0, 1}, []int{0, 0, 9}, 3, []int{0, 0, 1}, []int{0, 0, 2}},
		{"what waits of the first goes ahead too", []int{5, 0, 0}, []int{1, 1, 1}, 2, []int{2, 2, 1}, []int{0, 0, 1}},
		{"no rate", []int{1, 1}, []int{1, 1}, 0, []int{0, 0}, []int{0, 0}},
		{"the greatest rate, for the first", []int{10000, 0}, []int{10000, 0}, 10000, []int{10000, 0}, []int{0, 10000}},
		{"the greatest rate, for both", []int{9999, 1}, []int{1, 9999}, 10000, []int{9999, 1}, []int{1, 9999}},
		{"60 slots, all for the first", samples.Same(60, 10000), samples.Same(60, 10000), 10000, samples.Same(60, 10000), samples.Same(60, 0)},
		{"60 slots, half for each", samples.Same(60, 5000), samples.Same(60, 10000), 10000, samples.Same(60, 5000), samples.Same(60, 5000)},
	} {
		one, two, e := prio.Run(x.first, x.second, x.rate)
		if e != api.OK || !slices.Equal(one, x.one) || !slices.Equal(two, x.two) {
			t.Errorf("%s: %v %v %d, not %v %v", x.name, one, two, e, x.one, x.two)
		}
	}
}

func TestLeft(t *testing.T) { // P37
	for _, x := range []struct {
		name  string
		limit []int
		rate  int
		want  []int
	}{
		{"ordinary", []int{0, 3, 4, 5}, 2, []int{0, 0, 0, 1}},
		{"all the rate", []int{0, 0, 0}, 4, []int{0, 4, 8}},
		{"time 0 alone", []int{0}, 4, []int{0}},
		{"time 0 alone, and much there", []int{7}, 4, []int{0}},
		{"no rate", []int{0, 0, 3}, 0, []int{0, 0, 0}},
		{"as much as the rate", []int{0, 4, 8}, 4, []int{0, 0, 0}},
		{"less than the rate", []int{0, 3, 6}, 4, []int{0, 1, 2}},
		{"more than the rate", []int{0, 5, 10}, 4, []int{0, 0, 0}},
		{"there at time 0", []int{6, 6, 6, 6}, 4, []int{0, 0, 2, 6}},
		{"what was left stays", []int{0, 0, 9, 9}, 4, []int{0, 4, 4, 4}},
		{"what was left stays, and grows again", []int{0, 0, 9, 9, 9}, 4, []int{0, 4, 4, 4, 7}},
		{"the greatest", []int{api.MaxVal, api.MaxVal}, 10000, []int{0, 0}},
		{"the greatest rate up to the last time", samples.Same(61, 0), 10000, samples.Slope(61, 0, 10000)},
		{"61 values, one of the rate left", samples.Slope(61, 0, 9999), 10000, samples.Slope(61, 0, 1)},
	} {
		if got, e := prio.Left(x.limit, x.rate); e != api.OK || !slices.Equal(got, x.want) {
			t.Errorf("%s: %v %d, not %v", x.name, got, e, x.want)
		}
	}
}

func TestRunAll(t *testing.T) { // P36
	for _, x := range pairs() {
		for _, rate := range rates() {
			wantOne, wantTwo := run(x[0], x[1], rate)
			one, two, e := prio.Run(x[0], x[1], rate)
			if e != api.OK || !slices.Equal(one, wantOne) || !slices.Equal(two, wantTwo) {
				t.Fatalf("%v, %d: %v %v %d, not %v %v", x, rate, one, two, e, wantOne, wantTwo)
			}
		}
	}
}

func TestLeftAll(t *testing.T) { // P37
	for _, curves := range [][][]int{samples.Small(), samples.Steps(), samples.Long()} {
		for _, limit := range curves {
			for _, rate := range rates() {
				want := left(limit, rate)
				if got, e := prio.Left(limit, rate); e != api.OK || !slices.Equal(got, want) {
					t.Fatalf("%v, %d: %v %d, not %v", limit, rate, got, e, want)
				}
			}
		}
	}
}

// TestTheSecondIsNotThere: the first leaves as if it were alone, and both together leave as if they were one.
func TestTheSecondIsNotThere(t *testing.T) { // P36
	asked := 0
	for _, x := range pairs() {
		both := samples.Values(len(x[0]), func(i int) int { return x[0][i] + x[1][i] })
		for _, rate := range rates() {
			one, two, _ := prio.Run(x[0], x[1], rate)
			if alone, _, _ := line.Run(x[0], rate); !slices.Equal(one, alone) {
				t.Fatalf("%v, %d: %v of the first leave, and alone %v", x, rate, one, alone)
			}
			together, _, e := line.Run(both, rate)
			if e != api.OK {
				continue
			}
			asked++
			for i := range both {
				if one[i]+two[i] != together[i] {
					t.Fatalf("%v, %d: %v and %v leave, not %v", x, rate, one, two, together)
				}
			}
		}
	}
	if asked < 1000 {
		t.Errorf("only %d were asked", asked)
	}
}

// TestLeftHolds: the second has always got at least what Left says of the first's envelope.
func TestLeftHolds(t *testing.T) { // P36, P37
	served := 0
	for _, x := range pairs() {
		first, _ := trace.Sum(x[0])
		second, _ := trace.Sum(x[1])
		env, _ := trace.Env(first)
		for _, rate := range rates() {
			_, two, _ := prio.Run(x[0], x[1], rate)
			by, _ := trace.Sum(two)
			least, e := prio.Left(env, rate)
			if e != api.OK {
				t.Fatalf("%v, %d: %d", env, rate, e)
			}
			want, _ := conv.Of(second, least)
			if is, e := curve.Le(want, by); !is || e != api.OK {
				t.Fatalf("%v, %d: of the second %v has left, not at least %v", x, rate, by, want)
			}
			served += want[len(want)-1]
		}
	}
	if served == 0 {
		t.Error("nothing is ever left")
	}
}

func TestRunErrors(t *testing.T) { // P36
	seen := map[api.Errno]int{}
	for _, x := range samples.TraceCases() {
		for _, y := range samples.TraceCases() {
			for _, rate := range []int{math.MinInt, -1, 0, 1, 10000, 10001, math.MaxInt} {
				want := x.Want
				if want == api.OK && (rate < 0 || rate > 10000) {
					want = api.ErrArg
				}
				if want == api.OK {
					want = y.Want
				}
				if want == api.OK && len(x.A) != len(y.A) {
					want = api.ErrLen
				}
				size := 0
				if want == api.OK {
					size = len(x.A)
				}
				one, two, e := prio.Run(x.A, y.A, rate)
				if e != want || len(one) != size || len(two) != size {
					t.Errorf("%s, %s, %d: %v %v %d, not %d", x.Name, y.Name, rate, one, two, e, want)
				}
				seen[want]++
			}
		}
	}
	for _, e := range []api.Errno{api.OK, api.ErrArg, api.ErrLarge, api.ErrLen} {
		if seen[e] == 0 {
			t.Errorf("nothing was asked that deserves %d", e)
		}
	}
}

// TestRunErrorOrder: each error goes ahead of all that follow it in the chapter's list.
func TestRunErrorOrder(t *testing.T) { // P36
	long, wrong, good := samples.Same(61, 0), []int{-1}, []int{1}
	for _, x := range []struct {
		name          string
		first, second []int
		rate          int
		want          api.Errno
	}{
		{"all is well", good, []int{2}, 2, api.OK},
		{"the first's size ahead of the rate", long, good, -1, api.ErrLarge},
		{"the first's size ahead of the second's numbers", long, wrong, 2, api.ErrLarge},
		{"the first's numbers ahead of the second's size", wrong, long, 2, api.ErrArg},
		{"the rate ahead of the second's size", good, long, -1, api.ErrArg},
		{"the rate ahead of the second's size, too great by one", good, long, 10001, api.ErrArg},
		{"the rate ahead of the lengths", good, nil, -1, api.ErrArg},
		{"the second's size ahead of the lengths", good, long, 2, api.ErrLarge},
		{"the second's numbers ahead of the lengths", nil, wrong, 2, api.ErrArg},
		{"the first is shorter", nil, good, 2, api.ErrLen},
		{"the second is shorter", good, nil, 2, api.ErrLen},
		{"shorter by one of 60", samples.Same(60, 0), samples.Same(59, 0), 2, api.ErrLen},
	} {
		if _, _, e := prio.Run(x.first, x.second, x.rate); e != x.want {
			t.Errorf("%s: %d, not %d", x.name, e, x.want)
		}
	}
}

func TestLeftErrors(t *testing.T) { // P37
	for _, x := range samples.WrongCurves() {
		for _, rate := range []int{math.MinInt, -1, 0, 10000, 10001, math.MaxInt} {
			if got, e := prio.Left(x.F, rate); e != x.Want || len(got) != 0 {
				t.Errorf("%s, %d: %v %d, not %d", x.Name, rate, got, e, x.Want)
			}
		}
	}
	for _, limit := range [][]int{{0}, {0, 3, 3}, samples.Slope(61, 0, 1), {api.MaxVal}} {
		for _, rate := range []int{math.MinInt, -1, 10001, math.MaxInt} {
			if got, e := prio.Left(limit, rate); e != api.ErrArg || len(got) != 0 {
				t.Errorf("%v, %d: %v %d", limit, rate, got, e)
			}
		}
	}
}

func TestNothingPanics(t *testing.T) { // P1
	for _, a := range samples.Strange() {
		for _, rate := range samples.Numbers() {
			for _, b := range samples.Strange() {
				want := wantRun(a, b, rate)
				one, two, e := prio.Run(a, b, rate)
				if e != want || e != api.OK && len(one)+len(two) != 0 {
					t.Errorf("run of %v, %v, %d: %v %v %d, not %d", a, b, rate, one, two, e, want)
				}
			}
			if got, e := prio.Left(a, rate); !samples.Sound(a, got, e) {
				t.Errorf("left of %v, %d: %v %d", a, rate, got, e)
			}
		}
	}
}

func TestArgumentsStay(t *testing.T) { // P2
	first, second := []int{3, 0, 1, 0, 77, 78}, []int{1, 4, 0, 0, 87, 88, 89}
	none := []int{0, 0, 0, 0, 97, 98}
	for _, rooms := range [][][]int{{first, second}, {second, first}, {first, first}, {none, first}, {first, none}} {
		for _, call := range []func() ([]int, api.Errno){
			func() ([]int, api.Errno) { one, _, e := prio.Run(rooms[0][:4], rooms[1][:4], 5); return one, e },
			func() ([]int, api.Errno) { _, two, e := prio.Run(rooms[0][:4], rooms[1][:4], 5); return two, e },
		} {
			if fault := samples.Shares(rooms, call); fault != "" {
				t.Errorf("%v: %s", rooms, fault)
			}
		}
	}
	for _, limit := range [][]int{{0, 3, 4, 5, 77, 78}, {0, 0, 0, 0, 9}} {
		fault := samples.Shares([][]int{limit}, func() ([]int, api.Errno) { return prio.Left(limit[:4], 2) })
		if fault != "" {
			t.Errorf("%v: %s", limit, fault)
		}
	}
}

// TestResultsAreApart: neither result reaches the other through its spare room, even where the numbers are the same.
func TestResultsAreApart(t *testing.T) { // P2
	for _, a := range [][]int{{3, 0, 1, 0}, {0, 0}, {1, 1}} {
		if fault := samples.Apart(func() ([]int, []int, api.Errno) { return prio.Run(a, a, 2) }); fault != "" {
			t.Errorf("%v: %s", a, fault)
		}
	}
}
