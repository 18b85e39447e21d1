package point_test

import (
	"math"
	"slices"
	"testing"

	"headway/api"
	"headway/curve"
	"headway/point"
	"headway/samples"
)

type ofTwo struct {
	name string
	call func(f, g []int) ([]int, api.Errno)
	// want is the value at t by the chapter's words, checked against neither errors nor limits.
	want func(f, g []int, t int) int
}

func ofTwos() []ofTwo {
	return []ofTwo{
		{"Min", point.Min, func(f, g []int, t int) int { return slices.Min([]int{f[t], g[t]}) }},
		{"Max", point.Max, func(f, g []int, t int) int { return slices.Max([]int{f[t], g[t]}) }},
		{"Sum", point.Sum, func(f, g []int, t int) int { return f[t] + g[t] }},
		{"Less", point.Less, func(f, g []int, t int) int {
			all := []int{0}
			for s := 0; s <= t; s++ {
				all = append(all, f[s]-g[s])
			}
			return slices.Max(all)
		}},
	}
}

type ofOne struct {
	name string
	call func(f []int, n int) ([]int, api.Errno)
	want func(f []int, n, t int) int
}

func ofOnes() []ofOne {
	return []ofOne{
		{"Late", point.Late, func(f []int, d, t int) int {
			if t < d {
				return 0
			}
			return f[t-d]
		}},
		{"Up", point.Up, func(f []int, n, t int) int { return f[t] + n }},
	}
}

func TestExamples(t *testing.T) { // P6, P7, P8
	f, g := []int{0, 5, 6, 9}, []int{1, 2, 7, 8}
	one := func(a []int, _ api.Errno) []int { return a }
	for _, x := range []struct {
		name      string
		got, want []int
	}{
		{"min", one(point.Min(f, g)), []int{0, 2, 6, 8}},
		{"max", one(point.Max(f, g)), []int{1, 5, 7, 9}},
		{"sum", one(point.Sum(f, g)), []int{1, 7, 13, 17}},
		{"less", one(point.Less(f, g)), []int{0, 3, 3, 3}},
		{"the document's less", one(point.Less([]int{0, 5, 6}, []int{0, 1, 6})), []int{0, 4, 4}},
		{"less of a lower one", one(point.Less([]int{0, 1, 2}, []int{4, 5, 6})), []int{0, 0, 0}},
		{"less, at time 0 already", one(point.Less([]int{7, 7}, []int{2, 9})), []int{5, 5}},
		{"late by 0", one(point.Late(f, 0)), []int{0, 5, 6, 9}},
		{"late by 1", one(point.Late(g, 1)), []int{0, 1, 2, 7}},
		{"late by the last time", one(point.Late(g, 3)), []int{0, 0, 0, 1}},
		{"late by all", one(point.Late(g, 4)), []int{0, 0, 0, 0}},
		{"late for ever", one(point.Late(g, math.MaxInt)), []int{0, 0, 0, 0}},
		{"up by 0", one(point.Up(g, 0)), []int{1, 2, 7, 8}},
		{"up by 3", one(point.Up(g, 3)), []int{4, 5, 10, 11}},
		{"up by the greatest", one(point.Up([]int{0, 0}, api.MaxVal)), []int{api.MaxVal, api.MaxVal}},
	} {
		if !slices.Equal(x.got, x.want) {
			t.Errorf("%s: %v, not %v", x.name, x.got, x.want)
		}
	}
}

func TestTwoAll(t *testing.T) { // P6, P7
	for _, op := range ofTwos() {
		for f, g := range samples.Pairs() {
			want := samples.Values(len(f), func(t int) int { return op.want(f, g, t) })
			if got, e := op.call(f, g); e != api.OK || !slices.Equal(got, want) || curve.Check(got) != api.OK {
				t.Fatalf("%s of %v, %v: %v %d, not %v", op.name, f, g, got, e, want)
			}
		}
	}
}

func TestTwoErrors(t *testing.T) { // P6, P7
	for _, op := range ofTwos() {
		for _, x := range samples.WrongPairs() {
			if got, e := op.call(x.F, x.G); e != x.Want || len(got) != 0 {
				t.Errorf("%s, %s: %v %d, not %d", op.name, x.Name, got, e, x.Want)
			}
		}
	}
}

func TestSumLarge(t *testing.T) { // P6
	top := []int{0, api.MaxVal}
	if got, e := point.Sum(top, []int{0, 0}); e != api.OK || !slices.Equal(got, top) {
		t.Error(got, e)
	}
	if got, e := point.Sum([]int{0, 400000}, []int{0, 600000}); e != api.OK || !slices.Equal(got, top) {
		t.Error(got, e)
	}
	for _, g := range [][]int{{0, 1}, {1, 1}, {0, api.MaxVal}} {
		if got, e := point.Sum(top, g); e != api.ErrLarge || len(got) != 0 {
			t.Error(g, got, e)
		}
	}
	for _, op := range ofTwos() {
		if op.name == "Sum" {
			continue
		}
		if got, e := op.call(top, top); e != api.OK || len(got) != 2 {
			t.Error(op.name, got, e)
		}
	}
}

func TestOneSmall(t *testing.T) { // P8
	for _, op := range ofOnes() {
		for _, f := range samples.Small() {
			for n := range 8 {
				want := samples.Values(len(f), func(t int) int { return op.want(f, n, t) })
				if got, e := op.call(f, n); e != api.OK || !slices.Equal(got, want) {
					t.Fatalf("%s of %v by %d: %v %d, not %v", op.name, f, n, got, e, want)
				}
			}
		}
		f := samples.Slope(61, 4, 9)
		for _, n := range []int{0, 1, 30, 59, 60, 61, 62, 1000} {
			want := samples.Values(61, func(t int) int { return op.want(f, n, t) })
			if got, e := op.call(f, n); e != api.OK || !slices.Equal(got, want) {
				t.Fatalf("%s by %d: %v %d", op.name, n, got, e)
			}
		}
	}
}

func TestOneErrors(t *testing.T) { // P8
	for _, op := range ofOnes() {
		for _, x := range []struct {
			name string
			f    []int
			n    int
			want api.Errno
		}{
			{"no curve", nil, 0, api.ErrArg},
			{"a fall", []int{1, 0}, 0, api.ErrForm},
			{"too long", samples.Slope(62, 0, 1), 0, api.ErrLarge},
			{"too great", []int{0, api.MaxVal + 1}, 0, api.ErrLarge},
			{"the curve's form ahead of the number", []int{1, 0}, -1, api.ErrForm},
			{"the curve's size ahead of the number", samples.Slope(62, 0, 1), -1, api.ErrLarge},
			{"below 0", []int{0, 1}, -1, api.ErrArg},
			{"far below 0", []int{0, 1}, math.MinInt, api.ErrArg},
		} {
			if got, e := op.call(x.f, x.n); e != x.want || len(got) != 0 {
				t.Errorf("%s, %s: %v %d, not %d", op.name, x.name, got, e, x.want)
			}
		}
	}
}

func TestLateFar(t *testing.T) { // P8: no delay is too great
	for _, d := range []int{2, 61, api.MaxVal, api.MaxVal + 1, math.MaxInt} {
		if got, e := point.Late([]int{3, api.MaxVal}, d); e != api.OK || !slices.Equal(got, []int{0, 0}) {
			t.Error(d, got, e)
		}
	}
}

func TestUpLarge(t *testing.T) { // P8, and P6 on results that are too great
	for _, x := range []struct {
		f    []int
		n    int
		want api.Errno
	}{
		{[]int{0, 1}, api.MaxVal - 1, api.OK},
		{[]int{0, 1}, api.MaxVal, api.ErrLarge},
		{[]int{0, api.MaxVal}, 0, api.OK},
		{[]int{0, api.MaxVal}, 1, api.ErrLarge},
		{[]int{api.MaxVal}, api.MaxVal, api.ErrLarge},
		{[]int{0}, api.MaxVal + 1, api.ErrArg},
		{[]int{0}, math.MaxInt, api.ErrArg},
		{[]int{api.MaxVal}, math.MaxInt, api.ErrArg},
		{[]int{api.MaxVal}, api.MaxVal + 1, api.ErrArg},
	} {
		got, e := point.Up(x.f, x.n)
		if e != x.want || (e == api.OK) != (len(got) == len(x.f)) || e != api.OK && len(got) != 0 {
			t.Errorf("%v by %d: %v %d, not %d", x.f, x.n, got, e, x.want)
		}
	}
}

func TestNothingPanics(t *testing.T) { // P1
	for _, f := range samples.Strange() {
		for _, op := range ofTwos() {
			for _, g := range samples.Strange() {
				got, e := op.call(f, g)
				if !samples.Sound(f, got, e) {
					t.Errorf("%s of %v, %v: %v %d", op.name, f, g, got, e)
				}
			}
		}
		for _, op := range ofOnes() {
			for _, n := range samples.Numbers() {
				got, e := op.call(f, n)
				if !samples.Sound(f, got, e) {
					t.Errorf("%s of %v by %d: %v %d", op.name, f, n, got, e)
				}
			}
		}
	}
}

func TestArgumentsStay(t *testing.T) { // P2
	for _, op := range ofTwos() {
		if fault := samples.PairShares(op.call); fault != "" {
			t.Errorf("%s: %s", op.name, fault)
		}
	}
	f := []int{0, 5, 6, 9, 77, 78}
	for _, op := range ofOnes() {
		for _, n := range []int{0, 2, 9} {
			if fault := samples.Shares([][]int{f}, func() ([]int, api.Errno) { return op.call(f[:4], n) }); fault != "" {
				t.Errorf("%s by %d: %s", op.name, n, fault)
			}
		}
	}
}
