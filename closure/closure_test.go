package closure_test

import (
	"math"
	"slices"
	"testing"

	"headway/api"
	"headway/closure"
	"headway/conv"
	"headway/curve"
	"headway/samples"
)

// wanted is the closure by the chapter's words: all decompositions of each time are tried.
func wanted(f []int) []int {
	return samples.Values(len(f), func(t int) int {
		low := math.MaxInt
		for _, times := range samples.Splits(t) {
			sum := 0
			for _, s := range times {
				sum += f[s]
			}
			low = min(low, sum)
		}
		return low
	})
}

// holds is Is by the chapter's words.
func holds(f []int) bool {
	for s := range f {
		for t := 0; s+t < len(f); t++ {
			if f[s+t] > f[s]+f[t] {
				return false
			}
		}
	}
	return f[0] == 0
}

func TestOfExamples(t *testing.T) { // P12
	top := api.MaxVal
	for _, x := range []struct {
		name    string
		f, want []int
	}{
		{"the document's", []int{2, 3, 9, 9}, []int{0, 3, 6, 9}},
		{"0 alone", []int{0}, []int{0}},
		{"a start above 0 alone", []int{7}, []int{0}},
		{"the start counts nowhere", []int{5, 5, 9, 12}, []int{0, 5, 9, 12}},
		{"two values", []int{4, 6}, []int{0, 6}},
		{"closed already", []int{0, 3, 6, 9}, []int{0, 3, 6, 9}},
		{"one part is the least", []int{0, 4, 5, 6}, []int{0, 4, 5, 6}},
		{"unequal parts", []int{0, 5, 5, 6, 99, 99}, []int{0, 5, 5, 6, 10, 11}},
		{"equal parts that are not 1", []int{0, 5, 6, 11, 99, 99, 99}, []int{0, 5, 6, 11, 12, 17, 18}},
		{"three parts", []int{1, 4, 4, 9, 9, 9, 99}, []int{0, 4, 4, 8, 8, 9, 12}},
		{"nothing at time 1", []int{0, 0, 7, 8}, []int{0, 0, 0, 0}},
		{"nothing at all", []int{0, 0, 0}, []int{0, 0, 0}},
		{"all at the limit", []int{top, top, top, top}, []int{0, top, top, top}},
		{"one part below the limit", []int{0, 999999, top, top}, []int{0, 999999, top, top}},
	} {
		if got, e := closure.Of(x.f); e != api.OK || !slices.Equal(got, x.want) {
			t.Errorf("%s: %v %d, not %v", x.name, got, e, x.want)
		}
	}
}

func TestOfAll(t *testing.T) { // P12
	curves := slices.Concat(samples.Small(), samples.Steps())
	for _, f := range samples.Long() {
		curves = append(curves, f[:13])
	}
	for _, f := range curves {
		want := wanted(f)
		if got, e := closure.Of(f); e != api.OK || !slices.Equal(got, want) || curve.Check(got) != api.OK {
			t.Fatalf("%v: %v %d, not %v", f, got, e, want)
		}
	}
}

func TestOfLong(t *testing.T) { // P12
	for _, f := range append(samples.Long(), samples.Slope(61, 0, 16666), samples.Slope(61, api.MaxVal, 0)) {
		// With 0 at time 0, copies that take no time cost nothing: 60 copies are as many as there can be parts.
		started := slices.Clone(f)
		started[0] = 0
		want, _ := conv.Times(started, 60)
		if got, e := closure.Of(f); e != api.OK || !slices.Equal(got, want) {
			t.Fatalf("%v: %v %d, not %v", f, got, e, want)
		}
	}
}

func TestOfErrors(t *testing.T) { // P12
	for _, x := range samples.WrongCurves() {
		if got, e := closure.Of(x.F); e != x.Want || len(got) != 0 {
			t.Errorf("%s: %v %d, not %d", x.Name, got, e, x.Want)
		}
	}
}

func TestIsExamples(t *testing.T) { // P13
	top := api.MaxVal
	last := samples.Slope(61, 0, 1)
	last[60]++
	for _, x := range []struct {
		name string
		f    []int
		want bool
	}{
		{"a line", []int{0, 3, 6, 9}, true},
		{"too great by one", []int{0, 3, 7}, false},
		{"a start above 0", []int{1, 1}, false},
		{"0 alone", []int{0}, true},
		{"a start above 0 alone", []int{1}, false},
		{"a start alone", []int{0, top}, true},
		{"nothing but the start is wrong", []int{3, 3, 3, 3}, false},
		{"all at once", []int{0, 5, 5, 5}, true},
		{"nothing at all", []int{0, 0, 0, 0}, true},
		{"late", []int{0, 0, 1}, false},
		{"ever slower", []int{0, 9, 13, 15, 16}, true},
		{"ever faster", []int{0, 1, 3, 6, 10}, false},
		{"only two equal parts are less", []int{0, 2, 2, 4, 5}, false},
		{"two equal parts are as much", []int{0, 2, 2, 4, 4}, true},
		{"only two unequal parts are less", []int{0, 2, 4, 4, 7}, false},
		{"two unequal parts are as much", []int{0, 2, 4, 4, 6}, true},
		{"sums above the limit", []int{0, top, top, top}, true},
		{"61 values", samples.Slope(61, 0, 1), true},
		{"61 values, the last too great", last, false},
	} {
		if is, e := closure.Is(x.f); is != x.want || e != api.OK {
			t.Errorf("%s: %t %d", x.name, is, e)
		}
	}
}

func TestIsAll(t *testing.T) { // P13
	for _, f := range slices.Concat(samples.Small(), samples.Steps(), samples.Long()) {
		if is, e := closure.Is(f); is != holds(f) || e != api.OK {
			t.Fatalf("%v: %t %d", f, is, e)
		}
		closed, _ := closure.Of(f)
		if is, e := closure.Is(closed); !is || e != api.OK {
			t.Fatalf("%v, the closure of %v: %t %d", closed, f, is, e)
		}
	}
}

func TestIsErrors(t *testing.T) { // P13
	for _, x := range samples.WrongCurves() {
		if is, e := closure.Is(x.F); is || e != x.Want {
			t.Errorf("%s: %t %d, not %d", x.Name, is, e, x.Want)
		}
	}
}

func TestNothingPanics(t *testing.T) { // P1
	for _, f := range samples.Strange() {
		want := curve.Check(f)
		if got, e := closure.Of(f); e != want || (e == api.OK) != (len(got) > 0) {
			t.Errorf("%v: %v %d, not %d", f, got, e, want)
		}
		if is, e := closure.Is(f); e != want || is && e != api.OK {
			t.Errorf("%v: %t %d, not %d", f, is, e, want)
		}
	}
}

func TestArgumentsStay(t *testing.T) { // P2
	for _, room := range [][]int{{2, 3, 9, 9, 77, 78}, {0, 3, 6, 9, 87, 88, 89}, {0, 0, 0, 0, 97}} {
		if fault := samples.Shares([][]int{room}, func() ([]int, api.Errno) {
			closure.Is(room[:4])
			return closure.Of(room[:4])
		}); fault != "" {
			t.Errorf("%v: %s", room, fault)
		}
	}
}
