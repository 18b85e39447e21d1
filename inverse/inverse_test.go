package inverse_test

import (
	"math"
	"slices"
	"testing"

	"headway/api"
	"headway/curve"
	"headway/inverse"
	"headway/samples"
)

// lower is Lower by the chapter's words.
func lower(f []int, y int) int {
	for t, v := range f {
		if v >= y {
			return t
		}
	}
	return len(f)
}

// upper is Upper by the chapter's words.
func upper(f []int, y int) int {
	for t, v := range slices.Backward(f) {
		if v <= y {
			return t
		}
	}
	return -1
}

// levels returns what is worth asking about f: each of its values, those beside it, and the bounds.
func levels(f []int) []int {
	out := []int{0, api.MaxVal}
	for _, v := range f {
		for _, y := range []int{v - 1, v, v + 1} {
			if y >= 0 && y <= api.MaxVal {
				out = append(out, y)
			}
		}
	}
	return out
}

func TestExamples(t *testing.T) { // P16, P17
	top := api.MaxVal
	for _, x := range []struct {
		name         string
		f            []int
		y            int
		lower, upper int
	}{
		{"the document's", []int{1, 3, 3, 5}, 3, 1, 2},
		{"below the start", []int{1, 3, 3, 5}, 0, 0, -1},
		{"at the start", []int{1, 3, 3, 5}, 1, 0, 0},
		{"between two values", []int{1, 3, 3, 5}, 2, 1, 0},
		{"between the last two values", []int{1, 3, 3, 5}, 4, 3, 2},
		{"at the end", []int{1, 3, 3, 5}, 5, 3, 3},
		{"above the end", []int{1, 3, 3, 5}, 6, 4, 3},
		{"far above the end", []int{1, 3, 3, 5}, top, 4, 3},
		{"nothing, of a curve that starts with it", []int{0, 0, 2}, 0, 0, 1},
		{"nothing, of a curve that never has more", []int{0, 0, 0}, 0, 0, 2},
		{"one more than there ever is", []int{0, 0, 0}, 1, 3, 2},
		{"one value, below it", []int{7}, 6, 0, -1},
		{"one value", []int{7}, 7, 0, 0},
		{"one value, above it", []int{7}, 8, 1, 0},
		{"the same at all times", []int{4, 4, 4, 4, 4}, 4, 0, 4},
		{"the greatest value", []int{0, top, top}, top, 1, 2},
		{"one below the greatest value", []int{0, top, top}, top - 1, 1, 0},
		{"the greatest value alone", []int{top}, top, 0, 0},
		{"61 values, above the end", samples.Slope(61, 0, 1), 61, 61, 60},
		{"61 values, at the end", samples.Slope(61, 0, 1), 60, 60, 60},
		{"61 values, below the start", samples.Slope(61, 1, 0), 0, 0, -1},
	} {
		if got, e := inverse.Lower(x.f, x.y); got != x.lower || e != api.OK {
			t.Errorf("%s: lower: %d %d, not %d", x.name, got, e, x.lower)
		}
		if got, e := inverse.Upper(x.f, x.y); got != x.upper || e != api.OK {
			t.Errorf("%s: upper: %d %d, not %d", x.name, got, e, x.upper)
		}
	}
}

func TestAll(t *testing.T) { // P16, P17
	for _, f := range slices.Concat(samples.Small(), samples.Steps(), samples.Long()) {
		for _, y := range levels(f) {
			if got, e := inverse.Lower(f, y); got != lower(f, y) || e != api.OK {
				t.Fatalf("lower of %v, %d: %d %d, not %d", f, y, got, e, lower(f, y))
			}
			if got, e := inverse.Upper(f, y); got != upper(f, y) || e != api.OK {
				t.Fatalf("upper of %v, %d: %d %d, not %d", f, y, got, e, upper(f, y))
			}
		}
	}
}

// refuses tells whether both functions refuse f and y with the error want, and with nothing else.
func refuses(f []int, y int, want api.Errno) bool {
	low, e := inverse.Lower(f, y)
	high, e2 := inverse.Upper(f, y)
	return low == 0 && high == 0 && e == want && e2 == want
}

func TestErrors(t *testing.T) { // P16, P17
	for _, x := range samples.WrongCurves() {
		for _, y := range []int{0, 3, api.MaxVal, -1, api.MaxVal + 1} {
			if !refuses(x.F, y, x.Want) {
				t.Errorf("%s, %d: not refused with %d", x.Name, y, x.Want)
			}
		}
	}
	for _, f := range [][]int{{0}, {1, 3, 3, 5}, {0, api.MaxVal}, samples.Slope(61, 0, 1)} {
		for _, y := range []int{math.MinInt, -2, -1, api.MaxVal + 1, api.MaxVal + 2, math.MaxInt} {
			if !refuses(f, y, api.ErrArg) {
				t.Errorf("%v, %d: not refused", f, y)
			}
		}
	}
}

func TestNothingPanics(t *testing.T) { // P1
	for _, f := range samples.Strange() {
		for _, y := range samples.Numbers() {
			want := curve.Check(f)
			if want == api.OK && (y < 0 || y > api.MaxVal) {
				want = api.ErrArg
			}
			if want != api.OK {
				if !refuses(f, y, want) {
					t.Errorf("%v, %d: not refused with %d", f, y, want)
				}
				continue
			}
			low, e := inverse.Lower(f, y)
			high, e2 := inverse.Upper(f, y)
			if low != lower(f, y) || high != upper(f, y) || e != api.OK || e2 != api.OK {
				t.Errorf("%v, %d: %d %d, %d %d", f, y, low, e, high, e2)
			}
		}
	}
}

func TestArgumentsStay(t *testing.T) { // P2
	room := []int{1, 3, 3, 5, 77, 78}
	before := slices.Clone(room)
	for y := -1; y < 80; y++ {
		f := room[:4]
		low, _ := inverse.Lower(f, y)
		high, _ := inverse.Upper(f, y)
		if !slices.Equal(room, before) {
			t.Fatalf("%d: the argument has changed: %v", y, room)
		}
		if low > len(f) || high >= len(f) {
			t.Errorf("%d: %d, %d: the spare room counts", y, low, high)
		}
	}
}
