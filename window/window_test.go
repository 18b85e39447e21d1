package window_test

import (
	"math"
	"slices"
	"testing"

	"headway/api"
	"headway/samples"
	"headway/window"
)

// watched is Sent otherwise: slot by slot, the next piece goes if fewer than w are on the way.
func watched(n, w, trip int) []int {
	var out []int
	for t := 0; len(out) < n; t++ {
		onWay := 0
		for _, at := range out {
			if at+trip > t {
				onWay++
			}
		}
		if onWay < w {
			out = append(out, t)
		}
	}
	return out
}

// reckoned is Sent in one formula: each w pieces take trip slots, or w if that is more.
func reckoned(n, w, trip int) []int {
	return samples.Values(n, func(i int) int { return i/w*max(w, trip) + i%w })
}

// windowCase: arguments, and the error that they deserve.
type windowCase struct {
	name       string
	n, w, trip int
	want       api.Errno
}

func windowCases() []windowCase {
	return []windowCase{
		{"the document's", 5, 2, 4, api.OK},
		{"no pieces", 0, 2, 4, api.OK},
		{"all at the least", 0, 1, 1, api.OK},
		{"one piece", 1, 1, 1, api.OK},
		{"all at the most", 200, 200, 200, api.OK},
		{"the slowest", 200, 1, 200, api.OK},
		{"no pieces, the rest at the most", 0, 200, 200, api.OK},
		{"a negative number of pieces", -1, 2, 4, api.ErrArg},
		{"too many pieces by one", 201, 2, 4, api.ErrArg},
		{"the least number of pieces", math.MinInt, 2, 4, api.ErrArg},
		{"the greatest number of pieces", math.MaxInt, 2, 4, api.ErrArg},
		{"no window", 5, 0, 4, api.ErrArg},
		{"no window, no pieces", 0, 0, 4, api.ErrArg},
		{"a negative window", 5, -1, 4, api.ErrArg},
		{"too great a window by one", 5, 201, 4, api.ErrArg},
		{"too great a window, no pieces", 0, 201, 4, api.ErrArg},
		{"the least window of all", 5, math.MinInt, 4, api.ErrArg},
		{"the greatest window of all", 5, math.MaxInt, 4, api.ErrArg},
		{"no trip", 5, 2, 0, api.ErrArg},
		{"no trip, no pieces", 0, 2, 0, api.ErrArg},
		{"a negative trip", 5, 2, -1, api.ErrArg},
		{"too long a trip by one", 5, 2, 201, api.ErrArg},
		{"too long a trip, no pieces", 0, 2, 201, api.ErrArg},
		{"the least trip of all", 5, 2, math.MinInt, api.ErrArg},
		{"the greatest trip of all", 5, 2, math.MaxInt, api.ErrArg},
		{"zeros", 0, 0, 0, api.ErrArg},
	}
}

// TestErrors: with an error, all else is zero.
func TestErrors(t *testing.T) { // P55, P56
	for _, x := range windowCases() {
		n := x.n
		if x.want != api.OK {
			n = 0
		}
		if got, e := window.Sent(x.n, x.w, x.trip); e != x.want || len(got) != n {
			t.Errorf("sent: %s: %v %d, not %d", x.name, got, e, x.want)
		}
		if at, e := window.Done(x.n, x.w, x.trip); e != x.want || (at != 0) != (n > 0) {
			t.Errorf("done: %s: %d %d, not %d", x.name, at, e, x.want)
		}
	}
}

func TestSent(t *testing.T) { // P55
	for _, x := range []struct {
		name       string
		n, w, trip int
		want       []int
	}{
		{"the document's", 5, 2, 4, []int{0, 1, 4, 5, 8}},
		{"no pieces", 0, 2, 4, nil},
		{"one piece", 1, 1, 200, []int{0}},
		{"one on the way", 4, 1, 3, []int{0, 3, 6, 9}},
		{"one on the way, for one slot", 4, 1, 1, []int{0, 1, 2, 3}},
		{"as many as the window", 3, 3, 9, []int{0, 1, 2}},
		{"one more than the window", 4, 3, 9, []int{0, 1, 2, 9}},
		{"fewer than the window", 2, 200, 200, []int{0, 1}},
		{"a trip as long as the window", 5, 2, 2, []int{0, 1, 2, 3, 4}},
		{"a trip longer than the window by one", 5, 2, 3, []int{0, 1, 3, 4, 6}},
		{"a trip shorter than the window", 5, 3, 2, []int{0, 1, 2, 3, 4}},
		{"three windows", 7, 3, 5, []int{0, 1, 2, 5, 6, 7, 10}},
		{"200, the slowest", 200, 1, 200, samples.Slope(200, 0, 200)},
		{"200, the fastest", 200, 200, 200, samples.Slope(200, 0, 1)},
		{"200, all but the last in one window", 200, 199, 200, append(samples.Slope(199, 0, 1), 200)},
	} {
		if got, e := window.Sent(x.n, x.w, x.trip); e != api.OK || !slices.Equal(got, x.want) {
			t.Errorf("%s: %v %d, not %v", x.name, got, e, x.want)
		}
	}
}

func TestDone(t *testing.T) { // P56
	for _, x := range []struct {
		name       string
		n, w, trip int
		want       int
	}{
		{"the document's", 5, 2, 4, 12},
		{"one window that never waits", 5, 4, 4, 8},
		{"no pieces", 0, 2, 4, 0},
		{"no pieces, though the trip is long", 0, 1, 200, 0},
		{"one piece", 1, 2, 4, 4},
		{"one piece, the shortest trip", 1, 1, 1, 1},
		{"one on the way", 4, 1, 3, 12},
		{"as many as the window", 3, 3, 9, 11},
		{"one more than the window", 4, 3, 9, 18},
		{"a trip shorter than the window", 5, 3, 2, 6},
		{"200, the slowest", 200, 1, 200, 40000},
		{"200, the fastest", 200, 200, 200, 399},
		{"200, the shortest trip", 200, 1, 1, 200},
	} {
		if got, e := window.Done(x.n, x.w, x.trip); e != api.OK || got != x.want {
			t.Errorf("%s: %d %d, not %d", x.name, got, e, x.want)
		}
	}
}

// ask holds the answers against want.
func ask(t *testing.T, n, w, trip int, want []int) {
	if got, e := window.Sent(n, w, trip); e != api.OK || !slices.Equal(got, want) {
		t.Fatalf("sent: %d, %d, %d: %v %d, not %v", n, w, trip, got, e, want)
	}
	done := 0
	for _, at := range want {
		done = at + trip
	}
	if got, e := window.Done(n, w, trip); e != api.OK || got != done {
		t.Fatalf("done: %d, %d, %d: %d %d, not %d", n, w, trip, got, e, done)
	}
}

// TestAsEarlyAsPossible: a piece goes in the first slot in which the window has room.
func TestAsEarlyAsPossible(t *testing.T) { // P55, P56
	for n := range 14 {
		for w := 1; w <= 15; w++ {
			for trip := 1; trip <= 15; trip++ {
				ask(t, n, w, trip, watched(n, w, trip))
			}
		}
	}
}

func TestLong(t *testing.T) { // P55, P56
	for _, n := range []int{1, 2, 99, 100, 199, 200} {
		for w := 1; w <= 200; w++ {
			for trip := 1; trip <= 200; trip += 1 + trip%5 {
				ask(t, n, w, trip, reckoned(n, w, trip))
			}
		}
	}
}

func TestNothingPanics(t *testing.T) { // P1
	numbers := append(samples.Numbers(), 199, 200, 201)
	for _, n := range numbers {
		for _, w := range numbers {
			for _, trip := range numbers {
				want, size := api.OK, n
				if n < 0 || n > 200 || w < 1 || w > 200 || trip < 1 || trip > 200 {
					want, size = api.ErrArg, 0
				}
				if got, e := window.Sent(n, w, trip); e != want || len(got) != size {
					t.Fatalf("sent: %d, %d, %d: %v %d, not %d", n, w, trip, got, e, want)
				}
				if at, e := window.Done(n, w, trip); e != want || (at != 0) != (size > 0) {
					t.Fatalf("done: %d, %d, %d: %d %d, not %d", n, w, trip, at, e, want)
				}
			}
		}
	}
}

func TestResultsAreNew(t *testing.T) { // P2
	if fault := samples.Shares(nil, func() ([]int, api.Errno) { return window.Sent(5, 2, 4) }); fault != "" {
		t.Error(fault)
	}
}
