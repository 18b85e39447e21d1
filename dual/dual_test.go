package dual_test

import (
	"slices"
	"testing"

	"headway/api"
	"headway/curve"
	"headway/dual"
	"headway/samples"
)

// wanted is the max-plus convolution by the chapter's words; the limit of its values is the caller's.
func wanted(f, g []int) []int {
	return samples.Values(len(f), func(t int) int {
		var all []int
		for s := 0; s <= t; s++ {
			all = append(all, f[s]+g[t-s])
		}
		return slices.Max(all)
	})
}

// wantedSuper is the superadditive closure by the chapter's words: all decompositions of each time are tried.
func wantedSuper(f []int) []int {
	return samples.Values(len(f), func(t int) int {
		high := 0
		for _, times := range samples.Splits(t) {
			sum := 0
			for _, s := range times {
				sum += f[s]
			}
			high = max(high, sum)
		}
		return high
	})
}

func TestOfExamples(t *testing.T) { // P14
	for _, x := range []struct {
		name       string
		f, g, want []int
	}{
		{"two curves", []int{0, 1, 5}, []int{0, 2, 3}, []int{0, 2, 5}},
		{"turned", []int{0, 2, 3}, []int{0, 1, 5}, []int{0, 2, 5}},
		{"one value", []int{3}, []int{4}, []int{7}},
		{"both start above 0", []int{1, 5, 9}, []int{2, 3, 9}, []int{3, 7, 11}},
		{"the most is at the first end", []int{0, 1, 2}, []int{5, 9, 14}, []int{5, 9, 14}},
		{"the most is at the last end", []int{5, 9, 14}, []int{0, 1, 2}, []int{5, 9, 14}},
		{"neither end is the most", []int{0, 4, 4, 5}, []int{0, 0, 6, 6}, []int{0, 4, 6, 10}},
		{"a zero curve", []int{0, 4, 7}, []int{0, 0, 0}, []int{0, 4, 7}},
		{"by a constant", []int{0, 4, 7}, []int{3, 3, 3}, []int{3, 7, 10}},
		{"by itself", []int{0, 3, 4, 8}, []int{0, 3, 4, 8}, []int{0, 3, 6, 8}},
	} {
		if got, e := dual.Of(x.f, x.g); e != api.OK || !slices.Equal(got, x.want) {
			t.Errorf("%s: %v %d, not %v", x.name, got, e, x.want)
		}
	}
}

func TestOfAll(t *testing.T) { // P14
	for f, g := range samples.Pairs() {
		want := wanted(f, g)
		if got, e := dual.Of(f, g); e != api.OK || !slices.Equal(got, want) || curve.Check(got) != api.OK {
			t.Fatalf("%v, %v: %v %d, not %v", f, g, got, e, want)
		}
	}
}

func TestOfErrors(t *testing.T) { // P14
	for _, x := range samples.WrongPairs() {
		if got, e := dual.Of(x.F, x.G); e != x.Want || len(got) != 0 {
			t.Errorf("%s: %v %d, not %d", x.Name, got, e, x.Want)
		}
	}
}

func TestOfLarge(t *testing.T) { // P14, and P6 on results that are too great
	top := api.MaxVal
	for _, x := range []struct {
		name       string
		f, g, want []int
	}{
		{"at the limit", []int{400000}, []int{600000}, []int{top}},
		{"above by one", []int{400000}, []int{600001}, nil},
		{"far above", []int{top}, []int{top}, nil},
		{"far above at each time", samples.Slope(61, top, 0), samples.Slope(61, top, 0), nil},
		{"above at the last time only", []int{0, 500000, 500000}, []int{0, 500001, 500001}, nil},
		{"at the limit at the last time", []int{0, 500000, 500000}, []int{0, 500000, 500000}, []int{0, 500000, top}},
		{"great values whose times are too late together", []int{0, 1, top}, []int{0, 1, top}, []int{0, 1, top}},
	} {
		e := api.OK
		if x.want == nil {
			e = api.ErrLarge
		}
		if got, e2 := dual.Of(x.f, x.g); e2 != e || !slices.Equal(got, x.want) {
			t.Errorf("%s: %v %d, not %v", x.name, got, e2, x.want)
		}
	}
}

func TestSuperExamples(t *testing.T) { // P15
	for _, x := range []struct {
		name    string
		f, want []int
	}{
		{"the document's", []int{1, 3, 4, 8}, []int{0, 3, 6, 9}},
		{"0 alone", []int{0}, []int{0}},
		{"a start above 0 alone", []int{7}, []int{0}},
		{"the start counts nowhere", []int{5, 5, 12, 20}, []int{0, 5, 12, 20}},
		{"two values", []int{4, 6}, []int{0, 6}},
		{"closed already", []int{0, 1, 3, 6, 10}, []int{0, 1, 3, 6, 10}},
		{"all at once", []int{0, 5, 5, 5}, []int{0, 5, 10, 15}},
		{"equal parts that are not 1", []int{0, 0, 6, 6, 6, 6, 6}, []int{0, 0, 6, 6, 12, 12, 18}},
		{"unequal parts", []int{0, 0, 4, 7, 7, 7}, []int{0, 0, 4, 7, 8, 11}},
		{"late", []int{0, 0, 0, 7}, []int{0, 0, 0, 7}},
		{"nothing at all", []int{0, 0, 0}, []int{0, 0, 0}},
	} {
		if got, e := dual.Super(x.f); e != api.OK || !slices.Equal(got, x.want) {
			t.Errorf("%s: %v %d, not %v", x.name, got, e, x.want)
		}
	}
}

func TestSuperAll(t *testing.T) { // P15
	curves := slices.Concat(samples.Small(), samples.Steps())
	for _, f := range samples.Long() {
		curves = append(curves, f[:13])
	}
	for _, f := range curves {
		want := wantedSuper(f)
		got, e := dual.Super(f)
		if slices.Max(want) > api.MaxVal {
			if e != api.ErrLarge || len(got) != 0 {
				t.Fatalf("%v: %v %d, though it is %v", f, got, e, want)
			}
		} else if e != api.OK || !slices.Equal(got, want) || curve.Check(got) != api.OK {
			t.Fatalf("%v: %v %d, not %v", f, got, e, want)
		}
	}
}

func TestSuperLong(t *testing.T) { // P15
	for _, f := range append(samples.Long(), samples.Slope(61, 16666, 0), samples.Slope(61, 0, 16666)) {
		// With 0 at time 0, a part that takes no time adds nothing: 60 parts are as many as there can be.
		started := slices.Clone(f)
		started[0] = 0
		want := started
		for range 59 {
			want = wanted(want, started)
		}
		got, e := dual.Super(f)
		if want[60] > api.MaxVal {
			if e != api.ErrLarge || len(got) != 0 {
				t.Fatalf("%v: %v %d, though it is %v", f, got, e, want)
			}
		} else if e != api.OK || !slices.Equal(got, want) {
			t.Fatalf("%v: %v %d, not %v", f, got, e, want)
		}
	}
}

func TestSuperLarge(t *testing.T) { // P15, and P6 on results that are too great
	top := api.MaxVal
	for _, x := range []struct {
		name    string
		f, want []int
	}{
		{"at the limit", []int{0, 500000, 500000}, []int{0, 500000, top}},
		{"above by two", []int{0, 500001, 500001}, nil},
		{"above at the last time only", []int{0, 400000, 400000, 600001}, nil},
		{"at the limit by unequal parts", []int{0, 300000, 700000, 700000}, []int{0, 300000, 700000, top}},
		{"above by unequal parts", []int{0, 300000, 700001, 700001}, nil},
		{"one part at the limit", []int{0, 0, 0, top}, []int{0, 0, 0, top}},
		{"a start at the limit", []int{top}, []int{0}},
		{"a start and a value at the limit", []int{top, top}, []int{0, top}},
		{"two parts at the limit", []int{top, top, top}, nil},
		{"60 parts at the limit", samples.Slope(61, top, 0), nil},
		{"60 parts below the limit", samples.Slope(61, 16666, 0), samples.Slope(61, 0, 16666)},
		{"60 parts above it", samples.Slope(61, 16667, 0), nil},
		{"59 parts below it", samples.Slope(60, 16667, 0), samples.Slope(60, 0, 16667)},
	} {
		e := api.OK
		if x.want == nil {
			e = api.ErrLarge
		}
		if got, e2 := dual.Super(x.f); e2 != e || !slices.Equal(got, x.want) {
			t.Errorf("%s: %v %d, not %v", x.name, got, e2, x.want)
		}
	}
}

func TestSuperErrors(t *testing.T) { // P15
	for _, x := range samples.WrongCurves() {
		if got, e := dual.Super(x.F); e != x.Want || len(got) != 0 {
			t.Errorf("%s: %v %d, not %d", x.Name, got, e, x.Want)
		}
	}
}

func TestNothingPanics(t *testing.T) { // P1
	for _, f := range samples.Strange() {
		for _, g := range samples.Strange() {
			got, e := dual.Of(f, g)
			if !samples.Sound(f, got, e) {
				t.Errorf("%v, %v: %v %d", f, g, got, e)
			}
		}
		got, e := dual.Super(f)
		if !samples.Sound(f, got, e) {
			t.Errorf("%v: %v %d", f, got, e)
		}
	}
}

func TestArgumentsStay(t *testing.T) { // P2
	if fault := samples.PairShares(dual.Of); fault != "" {
		t.Error(fault)
	}
	f, zero := []int{0, 5, 6, 9, 77, 78}, []int{0, 0, 0, 0, 97, 98}
	for _, room := range [][]int{f, zero} {
		if fault := samples.Shares([][]int{room}, func() ([]int, api.Errno) { return dual.Super(room[:4]) }); fault != "" {
			t.Errorf("%v: %s", room, fault)
		}
	}
}
