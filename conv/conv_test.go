package conv_test

import (
	"math"
	"slices"
	"testing"

	"headway/api"
	"headway/conv"
	"headway/curve"
	"headway/samples"
)

// wanted is the convolution by the chapter's words; the limit of its values is the caller's.
func wanted(f, g []int) []int {
	return samples.Values(len(f), func(t int) int {
		var all []int
		for s := 0; s <= t; s++ {
			all = append(all, f[s]+g[t-s])
		}
		return slices.Min(all)
	})
}

// split is the least sum of n values of f whose times add up to t: all ways to split t are tried.
func split(f []int, n, t int) int {
	if n == 1 {
		return f[t]
	}
	low := math.MaxInt
	for s := 0; s <= t; s++ {
		low = min(low, f[s]+split(f, n-1, t-s))
	}
	return low
}

func TestOfExamples(t *testing.T) { // P9
	for _, x := range []struct {
		name       string
		f, g, want []int
	}{
		{"the document's", []int{0, 1, 5}, []int{0, 2, 3}, []int{0, 1, 3}},
		{"turned", []int{0, 2, 3}, []int{0, 1, 5}, []int{0, 1, 3}},
		{"one value", []int{3}, []int{4}, []int{7}},
		{"both start above 0", []int{1, 5, 9}, []int{2, 3, 9}, []int{3, 4, 8}},
		{"only the first start counts", []int{5, 9, 9}, []int{0, 1, 2}, []int{5, 6, 7}},
		{"only the second start counts", []int{0, 1, 2}, []int{5, 9, 9}, []int{5, 6, 7}},
		{"the least is at the first end", []int{0, 7, 9}, []int{0, 3, 4}, []int{0, 3, 4}},
		{"neither end is the least", []int{0, 1, 8, 8}, []int{0, 2, 2, 9}, []int{0, 1, 2, 3}},
		{"a zero curve", []int{0, 4, 7}, []int{0, 0, 0}, []int{0, 0, 0}},
		{"nothing but a start", []int{0, 4, 7}, []int{0, 99, 99}, []int{0, 4, 7}},
	} {
		if got, e := conv.Of(x.f, x.g); e != api.OK || !slices.Equal(got, x.want) {
			t.Errorf("%s: %v %d, not %v", x.name, got, e, x.want)
		}
	}
}

func TestOfAll(t *testing.T) { // P9
	for f, g := range samples.Pairs() {
		want := wanted(f, g)
		if got, e := conv.Of(f, g); e != api.OK || !slices.Equal(got, want) || curve.Check(got) != api.OK {
			t.Fatalf("%v, %v: %v %d, not %v", f, g, got, e, want)
		}
	}
}

func TestOfErrors(t *testing.T) { // P9
	for _, x := range samples.WrongPairs() {
		if got, e := conv.Of(x.F, x.G); e != x.Want || len(got) != 0 {
			t.Errorf("%s: %v %d, not %d", x.Name, got, e, x.Want)
		}
	}
}

func TestOfLarge(t *testing.T) { // P9, and P6 on results that are too great
	for _, x := range []struct {
		name string
		f, g []int
		want []int
	}{
		{"at the limit", []int{400000}, []int{600000}, []int{api.MaxVal}},
		{"above by one", []int{400000}, []int{600001}, nil},
		{"far above", []int{api.MaxVal}, []int{api.MaxVal}, nil},
		{"above at the last time only", []int{1, 1, 600000}, []int{500000, api.MaxVal, api.MaxVal}, nil},
		{"at the limit at the last time", []int{1, 1, 600000}, []int{500000, 999999, api.MaxVal}, []int{500001, 500001, api.MaxVal}},
		{"great sums, but none that is the least", []int{0, api.MaxVal}, []int{0, api.MaxVal}, []int{0, api.MaxVal}},
		{"great sums in the middle", []int{0, api.MaxVal, api.MaxVal}, []int{0, api.MaxVal, api.MaxVal}, []int{0, api.MaxVal, api.MaxVal}},
	} {
		e := api.OK
		if x.want == nil {
			e = api.ErrLarge
		}
		if got, e2 := conv.Of(x.f, x.g); e2 != e || !slices.Equal(got, x.want) {
			t.Errorf("%s: %v %d, not %v", x.name, got, e2, x.want)
		}
	}
}

func TestTimesExamples(t *testing.T) { // P10
	for _, x := range []struct {
		name string
		f    []int
		n    int
		want []int
	}{
		{"one copy", []int{1, 2, 9}, 1, []int{1, 2, 9}},
		{"two copies", []int{1, 2, 9}, 2, []int{2, 3, 4}},
		{"three copies", []int{1, 2, 9}, 3, []int{3, 4, 5}},
		{"copies of one value", []int{7}, 60, []int{420}},
		{"more copies than times", []int{0, 1, 9}, 60, []int{0, 1, 2}},
		{"fewer copies than times", []int{0, 1, 9, 9, 20}, 3, []int{0, 1, 2, 3, 10}},
	} {
		if got, e := conv.Times(x.f, x.n); e != api.OK || !slices.Equal(got, x.want) {
			t.Errorf("%s: %v %d, not %v", x.name, got, e, x.want)
		}
	}
}

func TestTimesSmall(t *testing.T) { // P10
	for _, f := range samples.Small() {
		for n := 1; n <= 5; n++ {
			want := samples.Values(len(f), func(t int) int { return split(f, n, t) })
			if got, e := conv.Times(f, n); e != api.OK || !slices.Equal(got, want) {
				t.Fatalf("%d of %v: %v %d, not %v", n, f, got, e, want)
			}
		}
	}
}

func TestTimesLong(t *testing.T) { // P10
	for _, f := range samples.Long() {
		want := f
		for n := 1; n <= 60; n++ {
			got, e := conv.Times(f, n)
			if want[60] > api.MaxVal {
				if e != api.ErrLarge || len(got) != 0 {
					t.Fatalf("%d of %v: %v %d", n, f, got, e)
				}
			} else if e != api.OK || !slices.Equal(got, want) {
				t.Fatalf("%d of %v: %v %d, not %v", n, f, got, e, want)
			}
			want = wanted(want, f)
		}
	}
}

func TestTimesBetween(t *testing.T) { // P10: only the last result has a limit
	top := api.MaxVal
	for _, x := range []struct {
		name string
		f    []int
		n    int
		want []int
	}{
		{"two copies are too great", []int{1, 2, top, top}, 2, nil},
		{"three of them are not", []int{1, 2, top, top}, 3, []int{3, 4, 5, 6}},
		{"59 copies are too great", append(samples.Slope(2, 1, 1), slices.Repeat([]int{top}, 59)...), 59, nil},
		{"60 of them are not", append(samples.Slope(2, 1, 1), slices.Repeat([]int{top}, 59)...), 60, samples.Slope(61, 60, 1)},
	} {
		e := api.OK
		if x.want == nil {
			e = api.ErrLarge
		}
		if got, e2 := conv.Times(x.f, x.n); e2 != e || !slices.Equal(got, x.want) {
			t.Errorf("%s: %v %d, not %v", x.name, got, e2, x.want)
		}
	}
}

func TestTimesErrors(t *testing.T) { // P10
	top := api.MaxVal
	for _, x := range []struct {
		name string
		f    []int
		n    int
		want api.Errno
	}{
		{"no curve", nil, 1, api.ErrArg},
		{"a fall", []int{1, 0}, 1, api.ErrForm},
		{"too long", samples.Slope(62, 0, 1), 1, api.ErrLarge},
		{"a value too great", []int{top + 1}, 1, api.ErrLarge},
		{"the curve's form ahead of the number", []int{1, 0}, 0, api.ErrForm},
		{"the curve's size ahead of the number", samples.Slope(62, 0, 1), 61, api.ErrLarge},
		{"no copies", []int{0, 1}, 0, api.ErrArg},
		{"below 0", []int{0, 1}, -1, api.ErrArg},
		{"far below 0", []int{0, 1}, math.MinInt, api.ErrArg},
		{"61 copies", []int{0, 1}, 61, api.ErrArg},
		{"far too many copies", []int{0, 1}, math.MaxInt, api.ErrArg},
		{"the number ahead of the size of the result", []int{top}, 61, api.ErrArg},
		{"one copy at the limit", []int{top}, 1, api.OK},
		{"two copies at the limit", []int{top / 2}, 2, api.OK},
		{"two copies above by two", []int{top/2 + 1}, 2, api.ErrLarge},
		{"60 copies below the limit", []int{16666}, 60, api.OK},
		{"60 copies above it", []int{16667}, 60, api.ErrLarge},
		{"60 copies far above it", []int{top}, 60, api.ErrLarge},
	} {
		got, e := conv.Times(x.f, x.n)
		if e != x.want || e == api.OK && !slices.Equal(got, []int{x.f[0] * x.n}) || e != api.OK && len(got) != 0 {
			t.Errorf("%s: %v %d, not %d", x.name, got, e, x.want)
		}
	}
}

func TestNothingPanics(t *testing.T) { // P1
	for _, f := range samples.Strange() {
		for _, g := range samples.Strange() {
			got, e := conv.Of(f, g)
			if !samples.Sound(f, got, e) {
				t.Errorf("%v, %v: %v %d", f, g, got, e)
			}
		}
		for _, n := range samples.Numbers() {
			got, e := conv.Times(f, n)
			if !samples.Sound(f, got, e) {
				t.Errorf("%d of %v: %v %d", n, f, got, e)
			}
		}
	}
}

func TestArgumentsStay(t *testing.T) { // P2
	if fault := samples.PairShares(conv.Of); fault != "" {
		t.Error(fault)
	}
	f, zero := []int{0, 5, 6, 9, 77, 78}, []int{0, 0, 0, 0, 97, 98}
	for _, n := range []int{1, 2, 3, 60} {
		for _, f := range [][]int{f, zero} {
			if fault := samples.Shares([][]int{f}, func() ([]int, api.Errno) { return conv.Times(f[:4], n) }); fault != "" {
				t.Errorf("%d of %v: %s", n, f, fault)
			}
		}
	}
}
