package retry_test

import (
	"math"
	"slices"
	"testing"

	"headway/api"
	"headway/retry"
	"headway/samples"
)

// tries returns n attempts, of which those of these indices are not lost.
func tries(n int, made ...int) []bool {
	lost := slices.Repeat([]bool{true}, n)
	for _, i := range made {
		lost[i] = false
	}
	return lost
}

// reckoned is Waits in one formula: first doubled as often as there are waits ahead, or most if that is less.
func reckoned(first, most, n int) []int {
	return samples.Values(n, func(i int) int { return min(most, first<<i) })
}

// watched is When otherwise: time after time, an attempt is made when a wait is over; -1 if all are lost.
func watched(first, most int, lost []bool) int {
	wait, left, tried := first, 0, 0
	for t := 0; tried < len(lost); t++ {
		if left > 0 {
			left--
		}
		if left > 0 {
			continue
		}
		if !lost[tried] {
			return t
		}
		tried++
		left, wait = wait, min(most, wait+wait)
	}
	return -1
}

// waitCase: arguments, and the error that they deserve.
type waitCase struct {
	name           string
	first, most, n int
	want           api.Errno
}

func waitCases() []waitCase {
	return []waitCase{
		{"ordinary", 3, 10, 4, api.OK},
		{"no waits", 3, 10, 0, api.OK},
		{"one wait", 3, 10, 1, api.OK},
		{"all at the least", 1, 1, 0, api.OK},
		{"all at the most", 1000000, 1000000, 40, api.OK},
		{"the least first and the greatest most", 1, 1000000, 40, api.OK},
		{"the first as long as the most", 7, 7, 40, api.OK},
		{"one less than the most", 6, 7, 40, api.OK},
		{"no first", 0, 10, 4, api.ErrArg},
		{"no first, no most", 0, 0, 4, api.ErrArg},
		{"no first, no waits", 0, 10, 0, api.ErrArg},
		{"a negative first", -1, 10, 4, api.ErrArg},
		{"a negative first and most", -3, -2, 4, api.ErrArg},
		{"the least first of all", math.MinInt, 10, 4, api.ErrArg},
		{"the greatest first of all", math.MaxInt, 10, 4, api.ErrArg},
		{"a most less than the first by one", 3, 2, 4, api.ErrArg},
		{"a most less than the first, no waits", 3, 2, 0, api.ErrArg},
		{"no most", 1, 0, 4, api.ErrArg},
		{"a negative most", 1, -1, 4, api.ErrArg},
		{"the least most of all", 1, math.MinInt, 4, api.ErrArg},
		{"too great a most by one", 3, 1000001, 4, api.ErrArg},
		{"too great a most, no waits", 3, 1000001, 0, api.ErrArg},
		{"the greatest most of all", 3, math.MaxInt, 4, api.ErrArg},
		{"too great a first and most by one", 1000001, 1000001, 4, api.ErrArg},
		{"the greatest first and most of all", math.MaxInt, math.MaxInt, 4, api.ErrArg},
		{"a negative number of waits", 3, 10, -1, api.ErrArg},
		{"too many waits by one", 3, 10, 41, api.ErrArg},
		{"the least number of waits", 3, 10, math.MinInt, api.ErrArg},
		{"the greatest number of waits", 3, 10, math.MaxInt, api.ErrArg},
		{"zeros", 0, 0, 0, api.ErrArg},
		{"all wrong", 0, -1, 41, api.ErrArg},
	}
}

func TestWaits(t *testing.T) { // P57
	for _, x := range []struct {
		name           string
		first, most, n int
		want           []int
	}{
		{"the document's", 3, 10, 4, []int{3, 6, 10, 10}},
		{"no waits", 3, 10, 0, nil},
		{"one", 3, 10, 1, []int{3}},
		{"two", 3, 10, 2, []int{3, 6}},
		{"the most is the first", 3, 3, 4, []int{3, 3, 3, 3}},
		{"the most is one more than the first", 3, 4, 4, []int{3, 4, 4, 4}},
		{"the most is twice the first", 3, 6, 4, []int{3, 6, 6, 6}},
		{"the most is one less than twice the first", 3, 5, 4, []int{3, 5, 5, 5}},
		{"the most is one more than twice the first", 3, 7, 4, []int{3, 6, 7, 7}},
		{"the most is never reached", 1, 1000000, 5, []int{1, 2, 4, 8, 16}},
		{"the least of all", 1, 1, 3, []int{1, 1, 1}},
		{"up to the greatest of all", 300000, 1000000, 4, []int{300000, 600000, 1000000, 1000000}},
		{"40, all at the most", 1000000, 1000000, 40, samples.Same(40, 1000000)},
		{"40, all but the first at the most", 999999, 1000000, 40, append([]int{999999}, samples.Same(39, 1000000)...)},
	} {
		if got, e := retry.Waits(x.first, x.most, x.n); e != api.OK || !slices.Equal(got, x.want) {
			t.Errorf("%s: %v %d, not %v", x.name, got, e, x.want)
		}
	}
}

// TestWaitsErrors: with an error, all else is zero.
func TestWaitsErrors(t *testing.T) { // P57
	for _, x := range waitCases() {
		n := x.n
		if x.want != api.OK {
			n = 0
		}
		if got, e := retry.Waits(x.first, x.most, x.n); e != x.want || len(got) != n {
			t.Errorf("%s: %v %d, not %d", x.name, got, e, x.want)
		}
	}
}

func TestWhen(t *testing.T) { // P58
	for _, x := range []struct {
		name        string
		first, most int
		lost        []bool
		want        int
		e           api.Errno
	}{
		{"the document's", 3, 10, tries(4, 3), 19, api.OK},
		{"at once", 3, 10, tries(1, 0), 0, api.OK},
		{"at once, of several", 3, 10, tries(4, 0), 0, api.OK},
		{"the second", 3, 10, tries(2, 1), 3, api.OK},
		{"the third", 3, 10, tries(3, 2), 9, api.OK},
		{"after four", 3, 10, tries(5, 4), 29, api.OK},
		{"the first of two that are not lost", 3, 10, tries(5, 1, 3), 3, api.OK},
		{"the first of all that are not lost", 3, 10, make([]bool, 5), 0, api.OK},
		{"lost ones after it do not count", 3, 10, tries(9, 2), 9, api.OK},
		{"always the same wait", 7, 7, tries(6, 5), 35, api.OK},
		{"always twice the wait", 1, 1000000, tries(11, 10), 1023, api.OK},
		{"the last of 40", 1, 1, tries(40, 39), 39, api.OK},
		{"the last of 40, the slowest", 1000000, 1000000, tries(40, 39), 39000000, api.OK},
		{"the first of 40", 1000000, 1000000, make([]bool, 40), 0, api.OK},
		{"one that is lost", 3, 10, tries(1), 0, api.ErrNone},
		{"some that are all lost", 3, 10, tries(4), 0, api.ErrNone},
		{"40 that are all lost", 3, 10, tries(40), 0, api.ErrNone},
		{"no attempt", 3, 10, nil, 0, api.ErrNone},
		{"no attempt, with an empty list", 3, 10, []bool{}, 0, api.ErrNone},
		{"no attempt, with spare room", 3, 10, make([]bool, 0, 5), 0, api.ErrNone},
		{"41", 3, 10, make([]bool, 41), 0, api.ErrLarge},
		{"41 that are all lost", 3, 10, tries(41), 0, api.ErrLarge},
		{"41, of which the first one is not lost", 3, 10, tries(41, 0), 0, api.ErrLarge},
		{"very many", 3, 10, make([]bool, 5000), 0, api.ErrLarge},
	} {
		if got, e := retry.When(x.first, x.most, x.lost); e != x.e || got != x.want {
			t.Errorf("%s: %d %d, not %d %d", x.name, got, e, x.want, x.e)
		}
	}
}

// TestWhenErrors: too many attempts go ahead of wrong waits, and wrong waits ahead of attempts that are all lost; with an error, all else is zero.
func TestWhenErrors(t *testing.T) { // P58
	for _, x := range waitCases() {
		// Here the attempts themselves are as many as they are: a wrong number of waits can't be asked.
		if x.n < 0 || x.n > 40 {
			continue
		}
		if at, e := retry.When(x.first, x.most, make([]bool, 41)); e != api.ErrLarge || at != 0 {
			t.Errorf("%s: with 41: %d %d", x.name, at, e)
		}
		if at, e := retry.When(x.first, x.most, tries(41)); e != api.ErrLarge || at != 0 {
			t.Errorf("%s: with 41 lost: %d %d", x.name, at, e)
		}
		if at, e := retry.When(x.first, x.most, tries(3, 0)); e != x.want || at != 0 {
			t.Errorf("%s: at once: %d %d, not %d", x.name, at, e, x.want)
		}
		second := x.first
		if x.want != api.OK {
			second = 0
		}
		if at, e := retry.When(x.first, x.most, tries(3, 1)); e != x.want || at != second {
			t.Errorf("%s: the second: %d %d, not %d %d", x.name, at, e, second, x.want)
		}
		want := x.want
		if want == api.OK {
			want = api.ErrNone
		}
		for _, n := range []int{0, 1, 40} {
			if at, e := retry.When(x.first, x.most, tries(n)); e != want || at != 0 {
				t.Errorf("%s: %d lost: %d %d, not %d", x.name, n, at, e, want)
			}
		}
	}
}

// TestWaitsReckoned holds the waits against the formula, over all their lengths.
func TestWaitsReckoned(t *testing.T) { // P57
	for _, most := range []int{1, 2, 3, 7, 8, 9, 100, 999999, 1000000} {
		for _, first := range []int{1, 2, 3, 4, 5, 7, 8, 9, 50, 99, 100, 499999, 500000, 500001, 999999, 1000000} {
			for n := 0; first <= most && n <= 40; n++ {
				want := reckoned(first, most, n)
				if got, e := retry.Waits(first, most, n); e != api.OK || !slices.Equal(got, want) {
					t.Fatalf("%d, %d, %d: %v %d, not %v", first, most, n, got, e, want)
				}
			}
		}
	}
}

// TestWhenWatched holds the time of success against that which is found time after time.
func TestWhenWatched(t *testing.T) { // P58
	lists := samples.Lists([]bool{false, true}, 6)
	for n := range 41 {
		lists = append(lists, tries(n))
		if n > 0 {
			lists = append(lists, tries(n, n-1), tries(n, n/2, n-1))
		}
	}
	for most := 1; most <= 17; most++ {
		for first := 1; first <= most; first++ {
			for _, lost := range lists {
				want, wantE := watched(first, most, lost), api.OK
				if want < 0 {
					want, wantE = 0, api.ErrNone
				}
				if got, e := retry.When(first, most, lost); e != wantE || got != want {
					t.Fatalf("%d, %d, %v: %d %d, not %d %d", first, most, lost, got, e, want, wantE)
				}
			}
		}
	}
}

func TestNothingPanics(t *testing.T) { // P1
	numbers := append(samples.Numbers(), 39, 40, 41)
	for _, first := range numbers {
		for _, most := range numbers {
			right := first >= 1 && most >= first && most <= 1000000
			for _, n := range numbers {
				want, size := api.OK, n
				if !right || n < 0 || n > 40 {
					want, size = api.ErrArg, 0
				}
				if got, e := retry.Waits(first, most, n); e != want || len(got) != size {
					t.Fatalf("waits: %d, %d, %d: %v %d, not %d", first, most, n, got, e, want)
				}
			}
			for _, lost := range [][]bool{nil, {}, {true}, {false}, {true, false}, tries(40), tries(40, 39), tries(41, 40)} {
				at, e := retry.When(first, most, lost)
				if (e == api.OK) != (right && len(lost) <= 40 && slices.Contains(lost, false)) || e != api.OK && at != 0 {
					t.Fatalf("when: %d, %d, %v: %d %d", first, most, lost, at, e)
				}
			}
		}
	}
}

func TestArgumentsStay(t *testing.T) { // P2
	room := []bool{true, true, true, false, true}
	before := slices.Clone(room)
	if at, e := retry.When(3, 10, room[:3]); at != 0 || e != api.ErrNone {
		t.Errorf("the spare room counts: %d %d", at, e)
	}
	if at, e := retry.When(3, 10, room[:4]); at != 19 || e != api.OK {
		t.Errorf("when: %d %d", at, e)
	}
	if !slices.Equal(room, before) {
		t.Errorf("an argument has changed: %v", room)
	}
}

func TestResultsAreNew(t *testing.T) { // P2
	if fault := samples.Shares(nil, func() ([]int, api.Errno) { return retry.Waits(3, 10, 4) }); fault != "" {
		t.Error(fault)
	}
}
