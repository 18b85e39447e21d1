package plan_test

import (
	"math"
	"slices"
	"testing"

	"headway/api"
	"headway/catch"
	"headway/curve"
	"headway/plan"
	"headway/samples"
	"headway/trace"
)

// divided is Rate in one formula: the least of the rates that are just enough at each time, rounded up; -1 if none of them may be.
func divided(limit []int, lag, d int) int {
	if lag+limit[0] == 0 {
		return 0
	}
	least := -1
	for t := 1; t <= d; t++ {
		rate := (lag + limit[t] + t - 1) / t
		if rate <= 10000 && (least < 0 || rate < least) {
			least = rate
		}
	}
	return least
}

// tried is Room otherwise: one lag after the other, up to the first one at which the bound is past d; -1 if there is none.
func tried(limit []int, rate, d int) int {
	lag := 0
	for {
		if by, e := catch.Bound(limit, rate, lag); e != api.OK || by > d {
			return lag - 1
		}
		lag++
	}
}

// numbers: a time and another number, and whether one of them is out of its bounds for a curve of h+1 values.
type numbers struct {
	name string
	n, d int
	bad  bool
}

// badNumbers returns such numbers, the first of them being at most most.
func badNumbers(h, most int) []numbers {
	return []numbers{
		{"both at the least", 0, 0, false},
		{"the last time", 1, h, false},
		{"both at the most", most, h, false},
		{"a negative time", 0, -1, true},
		{"one past the last time", 0, h + 1, true},
		{"one past the greatest time", 0, 61, true},
		{"the least time of all", 0, math.MinInt, true},
		{"the greatest time of all", 0, math.MaxInt, true},
		{"a negative number", -1, 0, true},
		{"too great a number by one", most + 1, 0, true},
		{"too great a number by one, at the last time", most + 1, h, true},
		{"the least number of all", math.MinInt, 0, true},
		{"the greatest number of all", math.MaxInt, 0, true},
		{"both negative", -1, -1, true},
		{"both too great", most + 1, h + 1, true},
		{"the greatest of both", math.MaxInt, math.MaxInt, true},
		{"the least of both", math.MinInt, math.MinInt, true},
	}
}

func TestRate(t *testing.T) { // P66
	for _, x := range []struct {
		name   string
		limit  []int
		lag, d int
		want   int
		e      api.Errno
	}{
		{"the document's", []int{0, 3, 4, 5}, 4, 3, 3, api.OK},
		{"a time sooner", []int{0, 3, 4, 5}, 4, 2, 4, api.OK},
		{"two times sooner", []int{0, 3, 4, 5}, 4, 1, 7, api.OK},
		{"at once", []int{0, 3, 4, 5}, 4, 0, 0, api.ErrNone},
		{"at once, with no lag", []int{0, 3, 4, 5}, 0, 0, 0, api.OK},
		{"with no lag", []int{0, 3, 4, 5}, 0, 3, 0, api.OK},
		{"with no lag, and a burst at time 0", []int{1, 3, 4, 6}, 0, 3, 2, api.OK},
		{"at once, with a burst", []int{1, 3, 4, 6}, 0, 0, 0, api.ErrNone},
		{"one more than the rate divides", []int{0, 0, 0, 0}, 7, 3, 3, api.OK},
		{"just what the rate divides", []int{0, 0, 0, 0}, 6, 3, 2, api.OK},
		{"one less than the rate divides", []int{0, 0, 0, 0}, 5, 3, 2, api.OK},
		{"one byte", []int{0, 0, 0, 0}, 1, 3, 1, api.OK},
		{"a sooner time takes less than a later one", []int{0, 1, 90, 90}, 3, 3, 4, api.OK},
		{"a time between takes the least", []int{0, 9, 9, 90}, 3, 3, 6, api.OK},
		{"times past d do not count", []int{0, 9, 9, 9, 9, 9}, 3, 1, 12, api.OK},
		{"the greatest rate", []int{0, 3}, 9997, 1, 10000, api.OK},
		{"one more than the greatest rate", []int{0, 3}, 9998, 1, 0, api.ErrNone},
		{"one less than the greatest rate", []int{0, 3}, 9996, 1, 9999, api.OK},
		{"the greatest lag", samples.Same(61, 0), 1000000, 60, 0, api.ErrNone},
		{"the greatest lag there may be", samples.Same(61, 0), 600000, 60, 10000, api.OK},
		{"one byte more", samples.Same(61, 0), 600001, 60, 0, api.ErrNone},
		{"one time sooner", samples.Same(61, 0), 600000, 59, 0, api.ErrNone},
		{"the greatest limit", samples.Same(61, 1000000), 0, 60, 0, api.ErrNone},
		{"the greatest limit there may be", samples.Same(61, 600000), 0, 60, 10000, api.OK},
		{"time 0 alone", []int{0}, 0, 0, 0, api.OK},
		{"time 0 alone, with a lag", []int{0}, 1, 0, 0, api.ErrNone},
		{"time 0 alone, with a burst", []int{1}, 0, 0, 0, api.ErrNone},
	} {
		if got, e := plan.Rate(x.limit, x.lag, x.d); e != x.e || got != x.want {
			t.Errorf("%s: %d %d, not %d %d", x.name, got, e, x.want, x.e)
		}
	}
}

func TestRoom(t *testing.T) { // P67
	for _, x := range []struct {
		name    string
		limit   []int
		rate, d int
		want    int
		e       api.Errno
	}{
		{"by time 3", []int{0, 3, 4, 5}, 3, 3, 4, api.OK},
		{"by time 2", []int{0, 3, 4, 5}, 3, 2, 2, api.OK},
		{"by time 1", []int{0, 3, 4, 5}, 3, 1, 0, api.OK},
		{"at once", []int{0, 3, 4, 5}, 3, 0, 0, api.OK},
		{"at once, with a burst", []int{1, 3, 4, 5}, 3, 0, 0, api.ErrNone},
		{"by time 1, with a burst", []int{1, 3, 4, 5}, 3, 1, 0, api.OK},
		{"none by time 1", []int{1, 4, 4, 5}, 3, 1, 0, api.ErrNone},
		{"no rate", []int{0, 0, 0}, 0, 2, 0, api.OK},
		{"no rate, and a burst", []int{1, 1, 1}, 0, 2, 0, api.ErrNone},
		{"a sooner time has more than a later one", []int{0, 1, 90, 90}, 5, 3, 4, api.OK},
		{"a time between has the most", []int{0, 9, 9, 90}, 6, 3, 3, api.OK},
		{"time 0 has the most", []int{0, 9, 18}, 8, 2, 0, api.OK},
		{"times past d do not count", []int{0, 1, 1, 1, 1}, 5, 2, 9, api.OK},
		{"short of it by one", []int{1, 9, 17, 25}, 8, 3, 0, api.ErrNone},
		{"just enough", []int{1, 9, 17, 24}, 8, 3, 0, api.OK},
		{"one to spare", []int{1, 9, 17, 23}, 8, 3, 1, api.OK},
		{"the most of all", samples.Same(61, 0), 10000, 60, 600000, api.OK},
		{"the most, less one", samples.Same(61, 1), 10000, 60, 599999, api.OK},
		{"one time sooner", samples.Same(61, 0), 10000, 59, 590000, api.OK},
		{"a limit as great as what can be got", samples.Same(61, 600000), 10000, 60, 0, api.OK},
		{"a limit greater by one", samples.Same(61, 600001), 10000, 60, 0, api.ErrNone},
		{"the greatest limit", samples.Same(61, 1000000), 10000, 60, 0, api.ErrNone},
		{"time 0 alone", []int{0}, 10000, 0, 0, api.OK},
		{"time 0 alone, with a burst", []int{1}, 10000, 0, 0, api.ErrNone},
	} {
		if got, e := plan.Room(x.limit, x.rate, x.d); e != x.e || got != x.want {
			t.Errorf("%s: %d %d, not %d %d", x.name, got, e, x.want, x.e)
		}
	}
}

// TestErrors: a wrong curve goes ahead of wrong numbers, and these ahead of there being none; with an error, all else is zero.
func TestErrors(t *testing.T) { // P66, P67
	for _, x := range samples.WrongCurves() {
		for _, p := range badNumbers(max(0, len(x.F)-1), 10000) {
			if n, e := plan.Rate(x.F, p.n, p.d); e != x.Want || n != 0 {
				t.Errorf("rate: %s, %s: %d %d, not %d", x.Name, p.name, n, e, x.Want)
			}
			if n, e := plan.Room(x.F, p.n, p.d); e != x.Want || n != 0 {
				t.Errorf("room: %s, %s: %d %d, not %d", x.Name, p.name, n, e, x.Want)
			}
		}
	}
	for _, f := range [][]int{{0}, {1}, {0, 3}, {0, 3, 4, 5}, {7, 7, 7}, samples.Same(60, 0), samples.Same(61, 0), samples.Same(61, 1000000)} {
		for _, p := range badNumbers(len(f)-1, 1000000) {
			if n, e := plan.Rate(f, p.n, p.d); (e == api.ErrArg) != p.bad || e != api.OK && n != 0 {
				t.Errorf("rate: %v, %s: %d %d", f, p.name, n, e)
			}
		}
		for _, p := range badNumbers(len(f)-1, 10000) {
			if n, e := plan.Room(f, p.n, p.d); (e == api.ErrArg) != p.bad || e != api.OK && n != 0 {
				t.Errorf("room: %v, %s: %d %d", f, p.name, n, e)
			}
		}
	}
}

// curves returns small, stepwise and long curves, and those with which the greatest rates are of use.
func curves() [][]int {
	out := slices.Concat(samples.Small(), samples.Steps(), samples.Long())
	return append(out, []int{0, 9999, 9999}, []int{0, 10000, 20001}, []int{0, 10001, 20000}, []int{0, 10001, 20001}, []int{5, 20001, 30000})
}

// TestRateDivided holds the rate against that which is reckoned by division.
func TestRateDivided(t *testing.T) { // P66
	for _, f := range curves() {
		for d := range f {
			for _, lag := range []int{0, 1, 2, 3, 4, 5, 7, 12, 100, 9999, 10000, 10001, 599999, 600000, 600001, 1000000} {
				want, wantE := divided(f, lag, d), api.OK
				if want < 0 {
					want, wantE = 0, api.ErrNone
				}
				if got, e := plan.Rate(f, lag, d); e != wantE || got != want {
					t.Fatalf("%v, %d, %d: %d %d, not %d %d", f, lag, d, got, e, want, wantE)
				}
			}
		}
	}
}

// TestRateIsTheLeast: the bound is met at the rate, and not at one less.
func TestRateIsTheLeast(t *testing.T) { // P66
	met := func(f []int, rate, lag, d int) bool {
		by, e := catch.Bound(f, rate, lag)
		return e == api.OK && by <= d
	}
	for _, f := range curves() {
		for d := range f {
			for _, lag := range []int{0, 1, 2, 3, 7, 12, 10000, 600000, 1000000} {
				rate, e := plan.Rate(f, lag, d)
				switch {
				case e == api.OK && !met(f, rate, lag, d):
					t.Fatalf("%v, %d, %d: %d is not enough", f, lag, d, rate)
				case e == api.OK && rate > 0 && met(f, rate-1, lag, d):
					t.Fatalf("%v, %d, %d: %d is more than enough", f, lag, d, rate)
				case e != api.OK && (e != api.ErrNone || rate != 0 || met(f, 10000, lag, d)):
					t.Fatalf("%v, %d, %d: %d %d, though there is one", f, lag, d, rate, e)
				}
			}
		}
	}
}

// TestRoomTried holds the room against that which is found lag after lag.
func TestRoomTried(t *testing.T) { // P67
	for _, f := range slices.Concat(samples.Small(), samples.Steps()) {
		for d := range f {
			for rate := range 12 {
				want, wantE := tried(f, rate, d), api.OK
				if want < 0 {
					want, wantE = 0, api.ErrNone
				}
				if got, e := plan.Room(f, rate, d); e != wantE || got != want {
					t.Fatalf("%v, %d, %d: %d %d, not %d %d", f, rate, d, got, e, want, wantE)
				}
			}
		}
	}
}

// TestRoomOfARate: the rate for a lag has room for that lag, and one less has not; the rate for a room is no greater than that which has it.
func TestRoomOfARate(t *testing.T) { // P66, P67
	planned := 0
	for _, f := range curves() {
		for d := range f {
			for _, n := range []int{0, 1, 2, 3, 5, 12, 700, 10000} {
				if rate, e := plan.Rate(f, n, d); e == api.OK {
					room, e := plan.Room(f, rate, d)
					if e != api.OK || room < n {
						t.Fatalf("%v, %d: a lag of %d takes a rate of %d, with room for %d %d", f, d, n, rate, room, e)
					}
					if less, e := plan.Room(f, rate-1, d); e == api.OK && less >= n {
						t.Fatalf("%v, %d: a lag of %d takes a rate of %d, with room for %d at one less", f, d, n, rate, less)
					}
				}
				if room, e := plan.Room(f, n, d); e == api.OK {
					rate, e := plan.Rate(f, room, d)
					if e != api.OK || rate > n {
						t.Fatalf("%v, %d: a rate of %d has room for %d, which takes %d %d", f, d, n, room, rate, e)
					}
					planned += room
				}
			}
		}
	}
	if planned == 0 {
		t.Error("there is room for nothing")
	}
}

// TestPlansHold: whatever comes within a limit, the follower at the planned rate has all in time.
func TestPlansHold(t *testing.T) { // P66
	for _, a := range samples.Traces() {
		come, _ := trace.Sum(a)
		env, _ := trace.Env(come)
		for d := range env {
			for _, lag := range []int{0, 1, 4, 12, 1000} {
				rate, none := plan.Rate(env, lag, d)
				if none != api.OK {
					continue
				}
				if at, e := catch.Done(a, rate, lag); e != api.OK || at > d {
					t.Fatalf("%v, %d, %d: at %d all is there at %d %d", a, lag, d, rate, at, e)
				}
			}
		}
	}
}

func TestNothingPanics(t *testing.T) { // P1
	for _, f := range samples.Strange() {
		for _, n := range samples.Numbers() {
			for _, d := range samples.Numbers() {
				wantRate := curve.Check(f)
				wantRoom := wantRate
				if wantRate == api.OK && (n < 0 || n > 1000000 || d < 0 || d >= len(f)) {
					wantRate = api.ErrArg
				}
				if wantRoom == api.OK && (n < 0 || n > 10000 || d < 0 || d >= len(f)) {
					wantRoom = api.ErrArg
				}
				if got, e := plan.Rate(f, n, d); e != wantRate && (wantRate != api.OK || e != api.ErrNone) || e != api.OK && got != 0 {
					t.Fatalf("rate: %v, %d, %d: %d %d, not %d", f, n, d, got, e, wantRate)
				}
				if got, e := plan.Room(f, n, d); e != wantRoom && (wantRoom != api.OK || e != api.ErrNone) || e != api.OK && got != 0 {
					t.Fatalf("room: %v, %d, %d: %d %d, not %d", f, n, d, got, e, wantRoom)
				}
			}
		}
	}
}

func TestArgumentsStay(t *testing.T) { // P2
	room := []int{0, 3, 4, 5, 77, 78}
	before := slices.Clone(room)
	if n, e := plan.Rate(room[:4], 4, 3); n != 3 || e != api.OK {
		t.Errorf("rate: %d %d", n, e)
	}
	if n, e := plan.Room(room[:4], 3, 3); n != 4 || e != api.OK {
		t.Errorf("room: %d %d", n, e)
	}
	// A time past the curve is wrong, even where there is spare room.
	if n, e := plan.Rate(room[:4], 4, 4); n != 0 || e != api.ErrArg {
		t.Errorf("rate: the spare room counts: %d %d", n, e)
	}
	if n, e := plan.Room(room[:4], 3, 4); n != 0 || e != api.ErrArg {
		t.Errorf("room: the spare room counts: %d %d", n, e)
	}
	if !slices.Equal(room, before) {
		t.Errorf("an argument has changed: %v", room)
	}
}
