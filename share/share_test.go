package share_test

import (
	"math"
	"slices"
	"testing"

	"headway/api"
	"headway/catch"
	"headway/line"
	"headway/samples"
	"headway/share"
)

// dealt is Done otherwise: the bytes are dealt one by one, and the one that gets the next is looked for from the one behind it that got the last.
func dealt(lags []int, rate int) []int {
	out := make([]int, len(lags))
	left := slices.Clone(lags)
	turn, sent := 0, 0
	for slices.Max(append(left, 0)) > 0 {
		for left[turn%len(left)] == 0 {
			turn++
		}
		i := turn % len(left)
		left[i]--
		if left[i] == 0 {
			out[i] = sent/rate + 1
		}
		sent++
		turn++
	}
	return out
}

// small returns all lists of up to 4 backlogs from 0 to 4.
func small() [][]int { return samples.Lists([]int{0, 1, 2, 3, 4}, 4) }

// long returns lists of up to 8 backlogs up to the greatest.
func long() [][]int {
	return [][]int{
		samples.Same(8, 1000), samples.Same(8, 1), samples.Same(8, 0),
		samples.Slope(8, 1, 1), samples.Slope(8, 8, -1), samples.Slope(8, 1000, -140), samples.Slope(8, 20, 140),
		{1000, 0, 0, 0, 0, 0, 0, 1000}, {0, 1000, 1, 999, 0, 1000, 2, 500}, {999, 1000, 1000, 999}, {1000, 999, 999, 1000},
		{1000}, {0, 0, 0, 0, 0, 0, 0, 1}, {1, 0, 0, 0, 0, 0, 0, 0}, {7, 7, 3, 7, 3, 7, 7, 3}, {5, 1, 5, 1, 5, 1, 5, 1},
	}
}

func rates() []int { return []int{1, 2, 3, 4, 5, 7, 8, 9, 16, 100, 999, 7999, 8000, 8001, 10000} }

// shareCase: backlogs and a rate, and the error that they deserve.
type shareCase struct {
	name string
	lags []int
	rate int
	want api.Errno
}

func shareCases() []shareCase {
	wrong := samples.Same(8, 1000)
	wrong[7]++
	return []shareCase{
		{"the document's", []int{3, 1}, 2, api.OK},
		{"nil", nil, 1, api.OK},
		{"nobody", []int{}, 10000, api.OK},
		{"nobody but spare room", make([]int, 0, 99), 1, api.OK},
		{"nobody lags", samples.Same(8, 0), 1, api.OK},
		{"8 at the most", samples.Same(8, 1000), 10000, api.OK},
		{"8 at the most, slowly", samples.Same(8, 1000), 1, api.OK},
		{"9", samples.Same(9, 0), 1, api.ErrLarge},
		{"9 ahead of their bounds", samples.Same(9, -1), 1, api.ErrLarge},
		{"9 ahead of a wrong rate", samples.Same(9, 0), 0, api.ErrLarge},
		{"9, and all wrong", samples.Same(9, 1001), 10001, api.ErrLarge},
		{"very many", make([]int, 5000), 1, api.ErrLarge},
		{"a negative backlog", []int{3, -1}, 2, api.ErrArg},
		{"a negative backlog ahead of the others", []int{-1, 3}, 2, api.ErrArg},
		{"too great a backlog by one", []int{1001}, 2, api.ErrArg},
		{"the last of 8 is too great by one", wrong, 2, api.ErrArg},
		{"the least backlog of all", []int{3, math.MinInt}, 2, api.ErrArg},
		{"the greatest backlog of all", []int{math.MaxInt, math.MaxInt}, 2, api.ErrArg},
		{"no rate", []int{3, 1}, 0, api.ErrArg},
		{"no rate, and nobody", nil, 0, api.ErrArg},
		{"no rate, and nobody lags", []int{0, 0}, 0, api.ErrArg},
		{"a negative rate", []int{3, 1}, -1, api.ErrArg},
		{"too great a rate by one", []int{3, 1}, 10001, api.ErrArg},
		{"too great a rate, and nobody", []int{}, 10001, api.ErrArg},
		{"the least rate of all", []int{3, 1}, math.MinInt, api.ErrArg},
		{"the greatest rate of all", []int{3, 1}, math.MaxInt, api.ErrArg},
		{"all wrong", []int{-1, 1001}, 0, api.ErrArg},
	}
}

func TestCheck(t *testing.T) { // P68
	for _, x := range shareCases() {
		if e := share.Check(x.lags, x.rate); e != x.want {
			t.Errorf("%s: %d, not %d", x.name, e, x.want)
		}
	}
}

// TestErrors: Done has the error of Check; with it, all else is zero.
func TestErrors(t *testing.T) { // P69
	for _, x := range shareCases() {
		size := len(x.lags)
		if x.want != api.OK {
			size = 0
		}
		if got, e := share.Done(x.lags, x.rate); e != x.want || len(got) != size {
			t.Errorf("%s: %v %d, not %d", x.name, got, e, x.want)
		}
	}
}

func TestDone(t *testing.T) { // P69
	for _, x := range []struct {
		name string
		lags []int
		rate int
		want []int
	}{
		{"the document's", []int{3, 1}, 2, []int{2, 1}},
		{"the document's, turned", []int{1, 3}, 2, []int{1, 2}},
		{"nobody", nil, 2, nil},
		{"nobody lags", []int{0, 0, 0}, 2, []int{0, 0, 0}},
		{"one", []int{5}, 2, []int{3}},
		{"one, as much as the rate divides", []int{6}, 2, []int{3}},
		{"one amid those who lack nothing", []int{0, 5, 0}, 2, []int{0, 3, 0}},
		{"one byte", []int{0, 0, 1}, 10000, []int{0, 0, 1}},
		{"the same for all, in their order", []int{1, 1, 1}, 1, []int{1, 2, 3}},
		{"two rounds of the same", []int{2, 2, 2}, 1, []int{4, 5, 6}},
		{"those ahead in the cycle get a byte sooner", []int{2, 2, 2}, 2, []int{2, 3, 3}},
		{"the turn stays from slot to slot", []int{2, 9}, 1, []int{3, 11}},
		{"the turn stays in the midst of a cycle", []int{2, 2, 1}, 2, []int{2, 3, 2}},
		{"who is done makes way for the others", []int{9, 1, 9}, 1, []int{18, 2, 19}},
		{"who lacks nothing is passed over", []int{2, 0, 2, 0}, 1, []int{3, 0, 4, 0}},
		{"all in one slot", []int{3, 1, 2}, 6, []int{1, 1, 1}},
		{"the last byte in one more slot", []int{3, 1, 2}, 5, []int{2, 1, 1}},
		{"a byte less for the one behind", []int{2, 3}, 3, []int{1, 2}},
		{"8 at the most, slowly", samples.Same(8, 1000), 1, samples.Slope(8, 7993, 1)},
		{"8 at the most, by cycles", samples.Same(8, 1000), 8, samples.Same(8, 1000)},
		{"8 at the most, fast", samples.Same(8, 1000), 10000, samples.Same(8, 1)},
		{"8 at the most, all but one byte in the first slot", samples.Same(8, 1000), 7999, []int{1, 1, 1, 1, 1, 1, 1, 2}},
		{"one at the most, slowly", []int{1000}, 1, []int{1000}},
	} {
		if got, e := share.Done(x.lags, x.rate); e != api.OK || !slices.Equal(got, x.want) {
			t.Errorf("%s: %v %d, not %v", x.name, got, e, x.want)
		}
	}
}

// TestDoneDealt holds the slots against those of bytes that are dealt one by one.
func TestDoneDealt(t *testing.T) { // P69
	for _, lists := range [][][]int{small(), long()} {
		for _, lags := range lists {
			for _, rate := range rates() {
				want := dealt(lags, rate)
				if got, e := share.Done(lags, rate); e != api.OK || !slices.Equal(got, want) {
					t.Fatalf("%v, %d: %v %d, not %v", lags, rate, got, e, want)
				}
			}
		}
	}
}

// TestNoByteIsLost: the link never rests while someone lags, so that the last is done when a link that no one shares is.
func TestNoByteIsLost(t *testing.T) { // P69
	for _, lags := range long() {
		sum := 0
		for _, lag := range lags {
			sum += lag
		}
		for _, rate := range rates() {
			got, e := share.Done(lags, rate)
			_, left, _ := line.Run(append([]int{sum}, samples.Same(59, 0)...), rate)
			if want := slices.Index(left, 0) + 1; sum > 0 && want > 0 && (e != api.OK || slices.Max(got) != want) {
				t.Fatalf("%v, %d: %v %d, not all by %d", lags, rate, got, e, want)
			}
		}
	}
}

// TestAlone: who shares with nobody is done when a follower of its own link is, and who shares is done no sooner.
func TestAlone(t *testing.T) { // P69
	for _, lag := range []int{0, 1, 2, 3, 7, 50, 60, 1000} {
		for _, rate := range []int{1, 2, 3, 17, 100, 10000} {
			want, e := catch.Done(samples.Same(60, 0), rate, lag)
			if e != api.OK {
				continue
			}
			if got, e := share.Done([]int{lag}, rate); e != api.OK || got[0] != want {
				t.Fatalf("%d, %d: %v %d, not %d", lag, rate, got, e, want)
			}
			for _, other := range []int{0, 1, 5, 1000} {
				if got, e := share.Done([]int{other, lag, other}, rate); e != api.OK || got[1] < want {
					t.Fatalf("%d, %d, beside %d: %v %d, sooner than %d", lag, rate, other, got, e, want)
				}
			}
		}
	}
}

// TestFair: who lags less is done no later, and of those who lag the same, none ahead in the list is done later.
func TestFair(t *testing.T) { // P69
	for _, lists := range [][][]int{small(), long()} {
		for _, lags := range lists {
			for _, rate := range rates() {
				got, _ := share.Done(lags, rate)
				for i := range lags {
					for j := range lags {
						if (lags[i] < lags[j] || lags[i] == lags[j] && i < j) && got[i] > got[j] {
							t.Fatalf("%v, %d: %v: %d is later than %d", lags, rate, got, i, j)
						}
					}
				}
			}
		}
	}
}

func TestNothingPanics(t *testing.T) { // P1
	lists := append(samples.Strange(), []int{0, 1000}, samples.Same(8, 1000), samples.Same(9, 1000), []int{1, -1}, []int{1, math.MinInt})
	for _, lags := range lists {
		for _, rate := range samples.Numbers() {
			want := api.OK
			switch {
			case len(lags) > 8:
				want = api.ErrLarge
			case rate < 1 || rate > 10000 || len(lags) > 0 && (slices.Min(lags) < 0 || slices.Max(lags) > 1000):
				want = api.ErrArg
			}
			if e := share.Check(lags, rate); e != want {
				t.Fatalf("check: %v, %d: %d, not %d", lags, rate, e, want)
			}
			if got, e := share.Done(lags, rate); e != want || e != api.OK && len(got) != 0 || e == api.OK && len(got) != len(lags) {
				t.Fatalf("done: %v, %d: %v %d, not %d", lags, rate, got, e, want)
			}
		}
	}
}

func TestArgumentsStay(t *testing.T) { // P2
	room := []int{3, 1, 0, 77, -5, 1001}
	before := slices.Clone(room)
	if e := share.Check(room[:3], 2); e != api.OK {
		t.Errorf("check: the spare room counts: %d", e)
	}
	if got, e := share.Done(room[:3], 2); e != api.OK || !slices.Equal(got, []int{2, 1, 0}) {
		t.Errorf("done: the spare room counts: %v %d", got, e)
	}
	if !slices.Equal(room, before) {
		t.Errorf("an argument has changed: %v", room)
	}
}

func TestResultsAreNew(t *testing.T) { // P2
	room := []int{3, 1, 0, 2, 77, 78}
	for n := 1; n < 5; n++ {
		if fault := samples.Shares([][]int{room}, func() ([]int, api.Errno) { return share.Done(room[:n], 2) }); fault != "" {
			t.Errorf("%d: %s", n, fault)
		}
	}
}
