package catch_test

import (
	"math"
	"slices"
	"testing"

	"headway/api"
	"headway/catch"
	"headway/curve"
	"headway/line"
	"headway/samples"
	"headway/trace"
)

func rates() []int { return []int{0, 1, 2, 3, 5, 100, 10000} }

func lags() []int { return []int{0, 1, 2, 3, 4, 5, 7, 12, 500, 1000000} }

// reckoned is the lag at time t in one formula: what has come since one time or another, less what could be got since, the lag at first counting from time 0 on.
func reckoned(a []int, rate, lag, t int) int {
	comes := 0
	for _, n := range a[:t] {
		comes += n - rate
	}
	most := max(0, lag+comes)
	for _, n := range a[:t] {
		comes -= n - rate
		most = max(most, comes)
	}
	return most
}

// watched is Done otherwise, byte by byte; -1 if there is no such time.
func watched(a []int, rate, lag int) int {
	if lag == 0 {
		return 0
	}
	for i, n := range a {
		lag += n
		for range rate {
			lag--
			if lag == 0 {
				return i + 1
			}
		}
		if lag == 0 {
			return i + 1
		}
	}
	return -1
}

// badPair: a rate and a lag, and whether one of them is out of its bounds.
type badPair struct {
	name      string
	rate, lag int
	bad       bool
}

func badPairs() []badPair {
	return []badPair{
		{"ordinary", 3, 4, false},
		{"both at the least", 0, 0, false},
		{"both at the most", 10000, 1000000, false},
		{"a negative rate", -1, 4, true},
		{"too great a rate by one", 10001, 4, true},
		{"a negative lag", 3, -1, true},
		{"too great a lag by one", 3, 1000001, true},
		{"the least rate of all", math.MinInt, 4, true},
		{"the greatest rate of all", math.MaxInt, 4, true},
		{"the least lag of all", 3, math.MinInt, true},
		{"the greatest lag of all", 3, math.MaxInt, true},
		{"both wrong", -1, 1000001, true},
		{"a negative rate, no lag", -1, 0, true},
		{"too great a rate, no lag", 10001, 0, true},
		{"a negative lag, no rate", 0, -1, true},
		{"the greatest of both", math.MaxInt, math.MaxInt, true},
	}
}

func TestLag(t *testing.T) { // P63
	for _, x := range []struct {
		name      string
		a         []int
		rate, lag int
		want      []int
	}{
		{"three slots", []int{3, 1, 1}, 3, 4, []int{4, 4, 2, 0}},
		{"no slots", nil, 3, 4, []int{4}},
		{"no slots, no lag", nil, 3, 0, []int{0}},
		{"no slots, the most", nil, 0, 1000000, []int{1000000}},
		{"nothing comes", []int{0, 0, 0}, 3, 7, []int{7, 4, 1, 0}},
		{"no rate", []int{3, 0, 1}, 0, 4, []int{4, 7, 7, 8}},
		{"no rate, no lag", []int{0, 0}, 0, 0, []int{0, 0, 0}},
		{"what comes in a slot is got in it", []int{3, 3}, 3, 0, []int{0, 0, 0}},
		{"one more than the rate in each slot", []int{4, 4}, 3, 0, []int{0, 1, 2}},
		{"one less than the rate in each slot", []int{2, 2, 2}, 3, 2, []int{2, 1, 0, 0}},
		{"what is spared does not count later", []int{0, 0, 5}, 3, 1, []int{1, 0, 0, 2}},
		{"all is there, and then not", []int{0, 9, 0, 0, 0}, 3, 3, []int{3, 0, 6, 3, 0, 0}},
		{"the last byte of a slot", []int{0}, 3, 3, []int{3, 0}},
		{"one more than the rate", []int{0}, 3, 4, []int{4, 1}},
		{"the greatest of all", []int{10000, 10000}, 0, 1000000, []int{1000000, 1010000, 1020000}},
		{"60 slots of the most, at no rate", samples.Same(60, 10000), 0, 1000000, samples.Slope(61, 1000000, 10000)},
		{"60 slots at the greatest rate", samples.Same(60, 0), 10000, 600000, samples.Slope(61, 600000, -10000)},
	} {
		if got, e := catch.Lag(x.a, x.rate, x.lag); e != api.OK || !slices.Equal(got, x.want) {
			t.Errorf("%s: %v %d, not %v", x.name, got, e, x.want)
		}
	}
}

func TestDone(t *testing.T) { // P64
	for _, x := range []struct {
		name      string
		a         []int
		rate, lag int
		want      int
		e         api.Errno
	}{
		{"three slots", []int{3, 1, 1}, 3, 4, 3, api.OK},
		{"one slot less", []int{3, 1}, 3, 4, 0, api.ErrNone},
		{"no lag", []int{9, 9}, 3, 0, 0, api.OK},
		{"no lag, no slots", nil, 0, 0, 0, api.OK},
		{"a lag, no slots", nil, 10000, 1, 0, api.ErrNone},
		{"a lag, an empty list", []int{}, 10000, 1, 0, api.ErrNone},
		{"in the first slot", []int{0}, 3, 3, 1, api.OK},
		{"one byte is left", []int{0}, 3, 4, 0, api.ErrNone},
		{"the first of several times", []int{0, 0, 0}, 3, 3, 1, api.OK},
		{"the first, though more comes", []int{0, 9, 0, 0, 0}, 3, 3, 1, api.OK},
		{"no rate", []int{0, 0}, 0, 1, 0, api.ErrNone},
		{"as much comes as is got", []int{3, 3}, 3, 1, 0, api.ErrNone},
		{"one less comes in the last slot", []int{3, 2}, 3, 1, 2, api.OK},
		{"in the last of 60 slots", samples.Same(60, 0), 10000, 600000, 60, api.OK},
		{"one byte more", samples.Same(60, 0), 10000, 600001, 0, api.ErrNone},
		{"in the last but one of 60 slots", samples.Same(60, 1), 2, 59, 59, api.OK},
		{"the greatest lag", samples.Same(60, 0), 10000, 1000000, 0, api.ErrNone},
	} {
		if got, e := catch.Done(x.a, x.rate, x.lag); e != x.e || got != x.want {
			t.Errorf("%s: %d %d, not %d %d", x.name, got, e, x.want, x.e)
		}
	}
}

func TestBound(t *testing.T) { // P65
	for _, x := range []struct {
		name      string
		limit     []int
		rate, lag int
		want      int
		e         api.Errno
	}{
		{"the document's", []int{0, 3, 4, 5}, 3, 4, 3, api.OK},
		{"one byte more", []int{0, 3, 4, 5}, 3, 5, 0, api.ErrNone},
		{"a lesser rate", []int{0, 3, 4, 5}, 2, 4, 0, api.ErrNone},
		{"a lesser lag", []int{0, 3, 4, 5}, 3, 2, 2, api.OK},
		{"the first of several times", []int{0, 3, 4, 5}, 3, 0, 0, api.OK},
		{"one byte, though it would fit later too", []int{0, 0, 0, 0}, 3, 1, 1, api.OK},
		{"a time that fits ahead of one that does not", []int{0, 0, 9, 9}, 3, 2, 1, api.OK},
		{"no lag, no rate", []int{0}, 0, 0, 0, api.OK},
		{"no lag, no rate, four times", []int{0, 5, 9, 9}, 0, 0, 0, api.OK},
		{"no rate", []int{0, 0, 0}, 0, 1, 0, api.ErrNone},
		{"time 0 alone, with a lag", []int{0}, 10000, 1, 0, api.ErrNone},
		{"time 0 alone, with a burst", []int{1}, 10000, 0, 0, api.ErrNone},
		{"a burst at time 0", []int{2, 2, 2}, 1, 0, 2, api.OK},
		{"a burst and a lag", []int{2, 2, 2}, 2, 2, 2, api.OK},
		{"one more than that", []int{2, 2, 2}, 2, 3, 0, api.ErrNone},
		{"at time 60", samples.Same(61, 0), 10000, 600000, 60, api.OK},
		{"past time 60", samples.Same(61, 0), 10000, 600001, 0, api.ErrNone},
		{"at time 60, by the limit", samples.Same(61, 600000), 10000, 0, 60, api.OK},
		{"past time 60, by the limit", samples.Same(61, 600000), 10000, 1, 0, api.ErrNone},
		{"the greatest of all", samples.Same(61, 1000000), 10000, 1000000, 0, api.ErrNone},
	} {
		if got, e := catch.Bound(x.limit, x.rate, x.lag); e != x.e || got != x.want {
			t.Errorf("%s: %d %d, not %d %d", x.name, got, e, x.want, x.e)
		}
	}
}

// TestTraceErrors: a wrong trace goes ahead of a wrong number, and a wrong number ahead of a lag that stays; with an error, all else is zero.
func TestTraceErrors(t *testing.T) { // P63, P64
	for _, x := range samples.TraceCases() {
		for _, p := range badPairs() {
			want := x.Want
			if want == api.OK && p.bad {
				want = api.ErrArg
			}
			size := 0
			if want == api.OK {
				size = len(x.A) + 1
			}
			got, e := catch.Lag(x.A, p.rate, p.lag)
			if e != want || len(got) != size {
				t.Errorf("lag: %s, %s: %v %d, not %d", x.Name, p.name, got, e, want)
			}
			if want == api.OK && !slices.Contains(got, 0) {
				want = api.ErrNone
			}
			if n, e := catch.Done(x.A, p.rate, p.lag); e != want || n < 0 || n > max(0, size-1) || e != api.OK && n != 0 {
				t.Errorf("done: %s, %s: %d %d, not %d", x.Name, p.name, n, e, want)
			}
		}
	}
}

// TestBoundErrors: a wrong curve goes ahead of a wrong number, and a wrong number ahead of a lag that may stay; with an error, all else is zero.
func TestBoundErrors(t *testing.T) { // P65
	for _, p := range badPairs() {
		for _, x := range samples.WrongCurves() {
			if n, e := catch.Bound(x.F, p.rate, p.lag); e != x.Want || n != 0 {
				t.Errorf("%s, %s: %d %d, not %d", x.Name, p.name, n, e, x.Want)
			}
		}
		for _, f := range [][]int{{0}, {1}, {0, 3, 4, 5}, samples.Same(61, 0), samples.Same(61, 1000000)} {
			n, e := catch.Bound(f, p.rate, p.lag)
			if (e == api.ErrArg) != p.bad || e != api.OK && n != 0 {
				t.Errorf("%v, %s: %d %d", f, p.name, n, e)
			}
		}
	}
}

// TestLagReckoned holds the lag at each time against the formula, over many traces.
func TestLagReckoned(t *testing.T) { // P63
	for _, a := range samples.Traces() {
		for _, rate := range rates() {
			for _, lag := range lags() {
				got, e := catch.Lag(a, rate, lag)
				want := samples.Values(len(a)+1, func(t int) int { return reckoned(a, rate, lag, t) })
				if e != api.OK || !slices.Equal(got, want) {
					t.Fatalf("%v, %d, %d: %v %d, not %v", a, rate, lag, got, e, want)
				}
			}
		}
	}
}

// TestLagIsALink: a follower that lacks nothing at first is a link, and one that lags is a link that got as much at once.
func TestLagIsALink(t *testing.T) { // P63
	for _, a := range samples.Traces() {
		for _, rate := range rates() {
			_, want, _ := line.Run(a, rate)
			if got, e := catch.Lag(a, rate, 0); e != api.OK || got[0] != 0 || !slices.Equal(got[1:], want) {
				t.Fatalf("%v, %d: %v %d, not 0 and %v", a, rate, got, e, want)
			}
			if len(a) == 60 {
				continue
			}
			for _, lag := range []int{0, 1, 5, 12} {
				_, want, _ := line.Run(append([]int{lag + rate}, a...), rate)
				if got, e := catch.Lag(a, rate, lag); lag+rate <= 10000 && (e != api.OK || !slices.Equal(got, want)) {
					t.Fatalf("%v, %d, %d: %v %d, not %v", a, rate, lag, got, e, want)
				}
			}
		}
	}
}

// TestDoneWatched holds the time at which all is there against that which is found byte by byte.
func TestDoneWatched(t *testing.T) { // P64
	for _, a := range samples.Traces() {
		for _, rate := range rates() {
			for _, lag := range lags() {
				want, wantE := watched(a, rate, lag), api.OK
				if want < 0 {
					want, wantE = 0, api.ErrNone
				}
				if got, e := catch.Done(a, rate, lag); e != wantE || got != want {
					t.Fatalf("%v, %d, %d: %d %d, not %d %d", a, rate, lag, got, e, want, wantE)
				}
			}
		}
	}
}

// TestBoundIsTheFirst: what holds at the bound holds at no time ahead of it, nor at any without one.
func TestBoundIsTheFirst(t *testing.T) { // P65
	for _, curves := range [][][]int{samples.Small(), samples.Steps(), samples.Long()} {
		for _, f := range curves {
			for _, rate := range rates() {
				for _, lag := range lags() {
					got, e := catch.Bound(f, rate, lag)
					ahead := got
					if e != api.OK {
						ahead = len(f)
					}
					for d := range ahead {
						if f[d] <= d*rate-lag {
							t.Fatalf("%v, %d, %d: %d %d, though %d is enough", f, rate, lag, got, e, d)
						}
					}
					if e == api.OK && f[got] > got*rate-lag || e != api.OK && (e != api.ErrNone || got != 0) {
						t.Fatalf("%v, %d, %d: %d %d", f, rate, lag, got, e)
					}
				}
			}
		}
	}
}

// TestBoundHolds: whatever comes within a limit, the follower has all by the bound.
func TestBoundHolds(t *testing.T) { // P64, P65
	held := 0
	for _, a := range samples.Traces() {
		come, _ := trace.Sum(a)
		env, _ := trace.Env(come)
		for _, rate := range rates() {
			for _, lag := range lags() {
				by, none := catch.Bound(env, rate, lag)
				if none != api.OK {
					continue
				}
				if got, e := catch.Done(a, rate, lag); e != api.OK || got > by {
					t.Fatalf("%v, %d, %d: all is there at %d %d, not by %d", a, rate, lag, got, e, by)
				}
				held += by
			}
		}
	}
	if held == 0 {
		t.Error("there is no bound")
	}
}

// TestBoundIsTight: if as much comes as a limit allows from time 0 on, the follower has all at the bound, and not ahead of it.
func TestBoundIsTight(t *testing.T) { // P64, P65
	for _, a := range samples.Traces() {
		limit, _ := trace.Sum(a)
		for _, rate := range rates() {
			for _, lag := range lags() {
				want, wantE := catch.Done(a, rate, lag)
				if got, e := catch.Bound(limit, rate, lag); e != wantE || got != want {
					t.Fatalf("%v, %d, %d: %d %d, not %d %d", limit, rate, lag, got, e, want, wantE)
				}
			}
		}
	}
}

func TestNothingPanics(t *testing.T) { // P1
	for _, a := range samples.Strange() {
		for _, rate := range samples.Numbers() {
			for _, lag := range samples.Numbers() {
				bad := rate < 0 || rate > 10000 || lag < 0 || lag > 1000000
				wantLag, wantBound := trace.Check(a), curve.Check(a)
				if wantLag == api.OK && bad {
					wantLag = api.ErrArg
				}
				if wantBound == api.OK && bad {
					wantBound = api.ErrArg
				}
				got, e := catch.Lag(a, rate, lag)
				if e != wantLag || e != api.OK && len(got) != 0 {
					t.Fatalf("lag: %v, %d, %d: %v %d, not %d", a, rate, lag, got, e, wantLag)
				}
				if n, e := catch.Done(a, rate, lag); e != wantLag && (wantLag != api.OK || e != api.ErrNone) || e != api.OK && n != 0 {
					t.Fatalf("done: %v, %d, %d: %d %d, not %d", a, rate, lag, n, e, wantLag)
				}
				if n, e := catch.Bound(a, rate, lag); e != wantBound && (wantBound != api.OK || e != api.ErrNone) || e != api.OK && n != 0 {
					t.Fatalf("bound: %v, %d, %d: %d %d, not %d", a, rate, lag, n, e, wantBound)
				}
			}
		}
	}
}

func TestArgumentsStay(t *testing.T) { // P2
	room := []int{3, 4, 5, 77, 78}
	before := slices.Clone(room)
	if n, e := catch.Done(room[:1], 5, 3); n != 0 || e != api.ErrNone {
		t.Errorf("the spare room counts: done: %d %d", n, e)
	}
	if n, e := catch.Done(room[:3], 5, 3); n != 2 || e != api.OK {
		t.Errorf("done: %d %d", n, e)
	}
	if n, e := catch.Bound(room[:1], 9, 1); n != 0 || e != api.ErrNone {
		t.Errorf("the spare room counts: bound: %d %d", n, e)
	}
	if n, e := catch.Bound(room[:3], 3, 1); n != 2 || e != api.OK {
		t.Errorf("bound: %d %d", n, e)
	}
	if !slices.Equal(room, before) {
		t.Errorf("an argument has changed: %v", room)
	}
}

func TestResultsAreNew(t *testing.T) { // P2
	room := []int{3, 1, 1, 0, 77, 78}
	for n := range 5 {
		if fault := samples.Shares([][]int{room}, func() ([]int, api.Errno) { return catch.Lag(room[:n], 3, 4) }); fault != "" {
			t.Errorf("%d slots: %s", n, fault)
		}
	}
}
