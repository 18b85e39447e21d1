package shaper_test

import (
	"math"
	"slices"
	"testing"

	"headway/api"
	"headway/bound"
	"headway/closure"
	"headway/conv"
	"headway/curve"
	"headway/samples"
	"headway/shape"
	"headway/shaper"
	"headway/trace"
)

// closed is the closure by the words of its chapter: all decompositions of each time are tried.
func closed(limit []int) []int {
	return samples.Values(len(limit), func(t int) int {
		low := math.MaxInt
		for _, times := range samples.Splits(t) {
			sum := 0
			for _, s := range times {
				sum += limit[s]
			}
			low = min(low, sum)
		}
		return low
	})
}

// together is the convolution by the words of its chapter.
func together(f, g []int) []int {
	return samples.Values(len(f), func(t int) int {
		low := math.MaxInt
		for s := 0; s <= t; s++ {
			low = min(low, f[s]+g[t-s])
		}
		return low
	})
}

func TestExamples(t *testing.T) { // P27
	top := api.MaxVal
	for _, x := range []struct {
		name           string
		a, limit, want []int
	}{
		{"the document's, 2 in each slot", []int{0, 9, 9, 9}, []int{0, 2, 4, 6}, []int{0, 2, 4, 6}},
		{"2 in one slot, and so in each", []int{0, 9, 9, 9}, []int{0, 2, 9, 9}, []int{0, 2, 4, 6}},
		{"the limit at time 0 does not count", []int{0, 9, 9, 9}, []int{2, 2, 9, 9}, []int{0, 2, 4, 6}},
		{"a great limit at time 0 does not count", []int{1, 2, 3}, []int{5, 5, 5}, []int{1, 2, 3}},
		{"what is there at time 0 leaves at once", []int{7, 9, 9, 9}, []int{0, 1, 9, 9}, []int{7, 8, 9, 9}},
		{"a burst, then 1 in each slot", []int{0, 9, 9, 9, 9}, []int{0, 4, 5, 6, 7}, []int{0, 4, 5, 6, 7}},
		{"the burst is there again after a pause", []int{0, 3, 3, 3, 9}, []int{0, 3, 4, 5, 6}, []int{0, 3, 3, 3, 6}},
		{"what has waited counts later", []int{0, 5, 5, 5, 6}, []int{0, 2, 4, 6, 8}, []int{0, 2, 4, 5, 6}},
		{"too much in two slots, though not in one", []int{0, 3, 6, 6}, []int{0, 3, 4, 9}, []int{0, 3, 4, 6}},
		{"within the limit", []int{0, 1, 2, 5}, []int{0, 3, 4, 5}, []int{0, 1, 2, 5}},
		{"nothing comes", []int{0, 0, 0}, []int{0, 2, 4}, []int{0, 0, 0}},
		{"nothing may leave", []int{0, 4, 9}, []int{0, 0, 0}, []int{0, 0, 0}},
		{"nothing may leave, but for what is there at time 0", []int{3, 4, 9}, []int{0, 0, 0}, []int{3, 3, 3}},
		{"nothing may leave in one slot, and so ever", []int{0, 4, 9}, []int{0, 0, 9}, []int{0, 0, 0}},
		{"one value", []int{7}, []int{4}, []int{7}},
		{"one value, no limit", []int{7}, []int{0}, []int{7}},
		{"the greatest", []int{top, top, top}, []int{top, top, top}, []int{top, top, top}},
		{"the greatest, and one that leaves", []int{top - 1, top, top}, []int{0, 1, 1}, []int{top - 1, top, top}},
		{"61 values", samples.Slope(61, 0, 9), samples.Slope(61, 0, 2), samples.Slope(61, 0, 2)},
		{"61 values, limited in one slot", samples.Slope(61, 0, 9), append([]int{0, 2}, samples.Slope(59, top, 0)...), samples.Slope(61, 0, 2)},
	} {
		if got, e := shaper.Of(x.a, x.limit); e != api.OK || !slices.Equal(got, x.want) {
			t.Errorf("%s: %v %d, not %v", x.name, got, e, x.want)
		}
	}
}

func TestAll(t *testing.T) { // P27
	var long [][]int
	for _, f := range samples.Long() {
		// The decompositions of greater times are too many.
		long = append(long, f[:13])
	}
	for _, curves := range [][][]int{samples.Small(), samples.Steps(), long} {
		for _, limit := range curves {
			least := closed(limit)
			for _, a := range curves {
				if len(a) != len(limit) {
					continue
				}
				want := together(a, least)
				if got, e := shaper.Of(a, limit); e != api.OK || !slices.Equal(got, want) || curve.Check(got) != api.OK {
					t.Fatalf("%v, %v: %v %d, not %v", a, limit, got, e, want)
				}
			}
		}
	}
}

func TestLong(t *testing.T) { // P27
	for _, a := range samples.Long() {
		for _, limit := range samples.Long() {
			least, _ := closure.Of(limit)
			want, _ := conv.Of(a, least)
			if got, e := shaper.Of(a, limit); e != api.OK || !slices.Equal(got, want) {
				t.Fatalf("%v, %v: %v %d, not %v", a, limit, got, e, want)
			}
		}
	}
}

// TestHoldsBack: what leaves has come, fits the limit, and is all that came just when that fits.
func TestHoldsBack(t *testing.T) { // P27
	for a, limit := range samples.Pairs() {
		got, _ := shaper.Of(a, limit)
		if is, e := curve.Le(got, a); !is || e != api.OK {
			t.Fatalf("%v, %v: %v leaves ahead of its coming", a, limit, got)
		}
		if is, e := trace.Fits(got, limit); !is || e != api.OK {
			t.Fatalf("%v, %v: %v does not fit", a, limit, got)
		}
		if is, _ := trace.Fits(a, limit); is != slices.Equal(got, a) {
			t.Fatalf("%v, %v: %v, though it is %t that all fits", a, limit, got, is)
		}
	}
}

// TestIsGreedy: nothing that has come and fits the limit is anywhere above what leaves.
func TestIsGreedy(t *testing.T) { // P27
	for _, a := range samples.Small() {
		for _, limit := range samples.Small() {
			if len(a) != len(limit) {
				continue
			}
			got, _ := shaper.Of(a, limit)
			for _, other := range samples.Small() {
				come, _ := curve.Le(other, a)
				fits, _ := trace.Fits(other, limit)
				if is, _ := curve.Le(other, got); come && fits && !is {
					t.Fatalf("%v, %v: %v, though %v could leave", a, limit, got, other)
				}
			}
		}
	}
}

// TestBoundsHold: what is within one limit waits in the shaper of another no more and no longer than the first limit itself.
func TestBoundsHold(t *testing.T) { // P27
	limit, _ := shape.Bucket(5, 1, 2)
	first, _ := shape.Bucket(5, 2, 3)
	most, _ := bound.Back(first, limit)
	longest, e := bound.Delay(first, limit)
	if e != api.OK {
		t.Fatal(e)
	}
	fitting := 0
	for _, a := range samples.Steps() {
		if is, _ := trace.Fits(a, first); !is {
			continue
		}
		fitting++
		got, _ := shaper.Of(a, limit)
		if n, e := bound.Back(a, got); n > most || e != api.OK {
			t.Errorf("%v: %d %d wait, not at most %d", a, n, e, most)
		}
		if n, e := bound.Delay(a, got); n > longest || e != api.OK {
			t.Errorf("%v: it waits %d %d, not at most %d", a, n, e, longest)
		}
	}
	if fitting == 0 {
		t.Error("no curve is within the limit")
	}
}

func TestErrors(t *testing.T) { // P27
	for _, x := range samples.WrongPairs() {
		if got, e := shaper.Of(x.F, x.G); e != x.Want || len(got) != 0 {
			t.Errorf("%s: %v %d, not %d", x.Name, got, e, x.Want)
		}
	}
	for _, x := range samples.WrongCurves() {
		for _, g := range [][]int{nil, {0}, {0, 3, 3}, {1, 0}, {-1}, samples.Slope(62, 0, 1)} {
			if got, e := shaper.Of(x.F, g); e != x.Want || len(got) != 0 {
				t.Errorf("%s, %v: %v %d, not %d", x.Name, g, got, e, x.Want)
			}
		}
		for _, g := range [][]int{{5}, {0, 3, 3}} {
			if got, e := shaper.Of(g, x.F); e != x.Want || len(got) != 0 {
				t.Errorf("the limit: %s, of %v: %v %d, not %d", x.Name, g, got, e, x.Want)
			}
		}
	}
}

func TestNothingPanics(t *testing.T) { // P1
	for _, a := range samples.Strange() {
		for _, limit := range samples.Strange() {
			_, want := curve.Le(a, limit)
			if got, e := shaper.Of(a, limit); e != want || !samples.Sound(a, got, e) {
				t.Errorf("%v, %v: %v %d, not %d", a, limit, got, e, want)
			}
		}
	}
}

func TestArgumentsStay(t *testing.T) { // P2
	if fault := samples.PairShares(shaper.Of); fault != "" {
		t.Error(fault)
	}
}
