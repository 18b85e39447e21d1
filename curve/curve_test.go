package curve_test

import (
	"math"
	"slices"
	"testing"

	"headway/api"
	"headway/curve"
	"headway/samples"
)

// ramp is 0, 1, 2 and so on, n values.
func ramp(n int) []int { return samples.Slope(n, 0, 1) }

// with is a ramp of n values, the one at time t replaced by v.
func with(n, t, v int) []int {
	f := ramp(n)
	f[t] = v
	return f
}

func TestCheck(t *testing.T) { // P3
	for _, x := range []struct {
		name string
		f    []int
		want api.Errno
	}{
		{"nil", nil, api.ErrArg},
		{"empty", []int{}, api.ErrArg},
		{"empty with spare room", make([]int, 0, 70), api.ErrArg},
		{"a single 0", []int{0}, api.OK},
		{"a single greatest value", []int{api.MaxVal}, api.OK},
		{"starts above 0", []int{7, 8}, api.OK},
		{"the document's curve", []int{0, 3, 3}, api.OK},
		{"the document's no curve", []int{0, 3, 2}, api.ErrForm},
		{"61 values", ramp(61), api.OK},
		{"62 values", ramp(62), api.ErrLarge},
		{"62 values ahead of their signs", with(62, 0, -1), api.ErrLarge},
		{"62 values ahead of their order", with(62, 5, 0), api.ErrLarge},
		{"negative", []int{-1}, api.ErrArg},
		{"most negative", []int{math.MinInt}, api.ErrArg},
		{"one too great", []int{api.MaxVal + 1}, api.ErrLarge},
		{"greatest int", []int{0, math.MaxInt}, api.ErrLarge},
		{"the greatest value last", []int{0, api.MaxVal}, api.OK},
		{"falls to 0", []int{0, 1, 0}, api.ErrForm},
		{"falls by one, at the start", []int{2, 1, 9}, api.ErrForm},
		{"falls at the last time", with(61, 60, 58), api.ErrForm},
		{"negative at the last time", with(61, 60, -1), api.ErrArg},
		{"too great at the last time", with(61, 60, api.MaxVal+1), api.ErrLarge},
		{"negative, which is a fall too", []int{5, -1}, api.ErrArg},
		{"negative ahead of too great", []int{-1, api.MaxVal + 1}, api.ErrArg},
		{"too great ahead of negative", []int{api.MaxVal + 1, -1}, api.ErrLarge},
		{"a fall ahead of negative", []int{2, 1, -1}, api.ErrForm},
		{"a fall ahead of too great", []int{2, 1, api.MaxVal + 1}, api.ErrForm},
		{"too great ahead of a fall", []int{0, api.MaxVal + 2, api.MaxVal + 1}, api.ErrLarge},
	} {
		if e := curve.Check(x.f); e != x.want {
			t.Errorf("%s: %d, not %d", x.name, e, x.want)
		}
	}
}

func TestLe(t *testing.T) { // P4
	for _, x := range []struct {
		name string
		f, g []int
		is   bool
		want api.Errno
	}{
		{"below", []int{0, 1}, []int{1, 2}, true, api.OK},
		{"equal", []int{0, 3, 3}, []int{0, 3, 3}, true, api.OK},
		{"above at the first time", []int{1, 1, 1}, []int{0, 1, 1}, false, api.OK},
		{"above in the middle", []int{0, 2, 2}, []int{0, 1, 2}, false, api.OK},
		{"above at the last time", []int{0, 1, 3}, []int{0, 1, 2}, false, api.OK},
		{"touches, above at no time", []int{0, 5, 5}, []int{1, 5, 9}, true, api.OK},
		{"above everywhere", []int{9, 9}, []int{0, 1}, false, api.OK},
		{"one value", []int{0}, []int{0}, true, api.OK},
		{"61 values, above at the last", with(61, 60, 61), ramp(61), false, api.OK},
		{"61 values, below at the last", ramp(61), with(61, 60, 61), true, api.OK},
	} {
		if is, e := curve.Le(x.f, x.g); is != x.is || e != x.want {
			t.Errorf("%s: %t %d", x.name, is, e)
		}
	}
}

func TestLeErrors(t *testing.T) { // P4, and the errors of two curves
	for _, x := range []struct {
		name string
		f, g []int
		want api.Errno
	}{
		{"no first", nil, []int{0}, api.ErrArg},
		{"no second", []int{0}, nil, api.ErrArg},
		{"the first falls", []int{1, 0}, []int{5, 5}, api.ErrForm},
		{"the second falls", []int{0, 0}, []int{5, 4}, api.ErrForm},
		{"the first's error ahead of the second's", []int{1, 0}, []int{-1, 0}, api.ErrForm},
		{"the first's error ahead of the second's, turned", []int{-1, 0}, []int{1, 0}, api.ErrArg},
		{"the second's error ahead of the lengths", []int{0}, []int{0, api.MaxVal + 1}, api.ErrLarge},
		{"the first's error ahead of the lengths", []int{-1}, []int{0, 1}, api.ErrArg},
		{"the first is shorter", []int{0}, []int{0, 1}, api.ErrLen},
		{"the second is shorter", []int{0, 1}, []int{0}, api.ErrLen},
		{"both too long", ramp(62), ramp(62), api.ErrLarge},
	} {
		if is, e := curve.Le(x.f, x.g); is || e != x.want {
			t.Errorf("%s: %t %d, not %d", x.name, is, e, x.want)
		}
	}
}

func TestCut(t *testing.T) { // P5
	for _, n := range []int{1, 2, 30, 61} {
		for h := range n {
			if f, e := curve.Cut(ramp(n), h); !slices.Equal(f, ramp(h+1)) || e != api.OK {
				t.Errorf("%d values up to %d: %v %d", n, h, f, e)
			}
		}
	}
}

func TestCutErrors(t *testing.T) { // P5
	for _, x := range []struct {
		name string
		f    []int
		h    int
		want api.Errno
	}{
		{"below 0", []int{0, 1, 2}, -1, api.ErrArg},
		{"far below 0", []int{0, 1, 2}, math.MinInt, api.ErrArg},
		{"one past the last time", []int{0, 1, 2}, 3, api.ErrArg},
		{"one past the last time, with spare room", make([]int, 3, 9), 3, api.ErrArg},
		{"one past the greatest last time", ramp(61), 61, api.ErrArg},
		{"far past the last time", []int{0, 1, 2}, math.MaxInt, api.ErrArg},
		{"no curve", nil, 0, api.ErrArg},
		{"too long", ramp(62), 3, api.ErrLarge},
		{"a fall behind the cut", []int{0, 5, 4}, 1, api.ErrForm},
		{"the curve's error ahead of the time's", []int{0, 5, 4}, -1, api.ErrForm},
		{"the curve's size ahead of the time's", ramp(62), -1, api.ErrLarge},
	} {
		if f, e := curve.Cut(x.f, x.h); len(f) != 0 || e != x.want {
			t.Errorf("%s: %v %d, not %d", x.name, f, e, x.want)
		}
	}
}

func TestNothingPanics(t *testing.T) { // P1
	for _, f := range samples.Strange() {
		e := curve.Check(f)
		for _, h := range samples.Numbers() {
			if out, e2 := curve.Cut(f, h); (e2 == api.OK) != (e == api.OK && h >= 0 && h < len(f)) || len(out) > 0 && e2 != api.OK {
				t.Errorf("cut of %v at %d: %v %d", f, h, out, e2)
			}
		}
		for _, g := range samples.Strange() {
			if is, e2 := curve.Le(f, g); is && e2 != api.OK || e != api.OK && e2 != e {
				t.Errorf("%v and %v: %t %d", f, g, is, e2)
			}
		}
	}
}

func TestArgumentsStay(t *testing.T) { // P2
	room := []int{0, 3, 3, 8, 77, 78, 79}
	before := slices.Clone(room)
	f := room[:4]
	curve.Check(f)
	curve.Le(f, f)
	for h := range f {
		out, _ := curve.Cut(f, h)
		again, _ := curve.Cut(f, h)
		out = out[:cap(out)]
		for i := range out {
			out[i] = -5
		}
		if !slices.Equal(room, before) {
			t.Fatalf("cut at %d shares with its argument: %v", h, room)
		}
		if !slices.Equal(again, before[:h+1]) {
			t.Errorf("cut at %d shares with another result: %v", h, again)
		}
	}
}
