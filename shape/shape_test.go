package shape_test

import (
	"math"
	"slices"
	"testing"

	"headway/api"
	"headway/curve"
	"headway/samples"
	"headway/shape"
)

// kind: a function of the package, what it returns by the chapter's words, and the bounds of its arguments behind the time.
type kind struct {
	name        string
	call        func(h, a, b int) ([]int, api.Errno)
	wanted      func(h, a, b int) []int
	aHigh       int
	bLow, bHigh int
}

func kinds() []kind {
	return []kind{
		{"bucket", shape.Bucket, bucket, 10000, 0, 1000000},
		{"line", shape.Line, line, 10000, 0, 60},
		{"stair", shape.Stair, stair, 10000, 1, 60},
	}
}

// fits reports whether all arguments are within their bounds.
func (k kind) fits(h, a, b int) bool {
	return h >= 0 && h <= 60 && a >= 0 && a <= k.aHigh && b >= k.bLow && b <= k.bHigh
}

// right reports whether the answer is the one that the chapter asks for.
func (k kind) right(h, a, b int) bool {
	got, e := k.call(h, a, b)
	if !k.fits(h, a, b) {
		return e == api.ErrArg && len(got) == 0
	}
	want := k.wanted(h, a, b)
	if slices.Max(want) > api.MaxVal {
		return e == api.ErrLarge && len(got) == 0
	}
	return e == api.OK && slices.Equal(got, want) && curve.Check(got) == api.OK
}

func bucket(h, rate, burst int) []int {
	out := []int{0}
	level := burst
	for range h {
		level += rate
		out = append(out, level)
	}
	return out
}

func line(h, rate, late int) []int {
	out := []int{0}
	level := 0
	for t := 1; t <= h; t++ {
		if t > late {
			level += rate
		}
		out = append(out, level)
	}
	return out
}

func stair(h, size, step int) []int {
	return samples.Values(h+1, func(t int) int {
		// The smallest integer that is not less than t / step.
		steps := 0
		for steps*step < t {
			steps++
		}
		return steps * size
	})
}

func TestExamples(t *testing.T) { // P18, P19, P20
	for _, x := range []struct {
		name    string
		call    func(h, a, b int) ([]int, api.Errno)
		h, a, b int
		want    []int
	}{
		{"the document's bucket", shape.Bucket, 3, 5, 2, []int{0, 7, 12, 17}},
		{"a bucket up to time 0", shape.Bucket, 0, 5, 2, []int{0}},
		{"a bucket without a rate", shape.Bucket, 3, 0, 4, []int{0, 4, 4, 4}},
		{"a bucket without a burst", shape.Bucket, 3, 4, 0, []int{0, 4, 8, 12}},
		{"an empty bucket", shape.Bucket, 2, 0, 0, []int{0, 0, 0}},
		{"a late line", shape.Line, 3, 5, 1, []int{0, 0, 5, 10}},
		{"a line that is not late", shape.Line, 3, 5, 0, []int{0, 5, 10, 15}},
		{"a line that is late until the end", shape.Line, 3, 5, 3, []int{0, 0, 0, 0}},
		{"a line that is late until just before the end", shape.Line, 3, 5, 2, []int{0, 0, 0, 5}},
		{"a line that is later than the end", shape.Line, 3, 5, 60, []int{0, 0, 0, 0}},
		{"a line without a rate", shape.Line, 3, 0, 1, []int{0, 0, 0, 0}},
		{"a line up to time 0", shape.Line, 0, 5, 0, []int{0}},
		{"steps of 2", shape.Stair, 5, 4, 2, []int{0, 4, 4, 8, 8, 12}},
		{"steps of 1", shape.Stair, 4, 3, 1, []int{0, 3, 6, 9, 12}},
		{"steps of 3", shape.Stair, 7, 1, 3, []int{0, 1, 1, 1, 2, 2, 2, 3}},
		{"a step beyond the end", shape.Stair, 3, 9, 60, []int{0, 9, 9, 9}},
		{"steps of no size", shape.Stair, 3, 0, 2, []int{0, 0, 0, 0}},
		{"steps up to time 0", shape.Stair, 0, 9, 2, []int{0}},
	} {
		if got, e := x.call(x.h, x.a, x.b); e != api.OK || !slices.Equal(got, x.want) {
			t.Errorf("%s: %v %d, not %v", x.name, got, e, x.want)
		}
	}
}

func TestAll(t *testing.T) { // P18, P19, P20
	for _, k := range kinds() {
		for h := -1; h <= 61; h++ {
			for _, a := range []int{-1, 0, 1, 7, 9999, 10000, 10001} {
				for b := -1; b <= 61; b++ {
					if !k.right(h, a, b) {
						got, e := k.call(h, a, b)
						t.Fatalf("%s of %d, %d, %d: %v %d", k.name, h, a, b, got, e)
					}
				}
			}
		}
	}
}

func TestErrors(t *testing.T) { // P18, P19, P20
	for _, k := range kinds() {
		for _, x := range []struct {
			name    string
			h, a, b int
			want    api.Errno
		}{
			{"all at the least", 0, 0, k.bLow, api.OK},
			{"the last time", 60, 1, k.bLow, api.OK},
			{"past the last time", 61, 1, k.bLow, api.ErrArg},
			{"ahead of time 0", -1, 1, k.bLow, api.ErrArg},
			{"far past the last time", math.MaxInt, 1, k.bLow, api.ErrArg},
			{"far ahead of time 0", math.MinInt, 1, k.bLow, api.ErrArg},
			{"the second at the most", 1, k.aHigh, k.bLow, api.OK},
			{"the second too great by one", 1, k.aHigh + 1, k.bLow, api.ErrArg},
			{"the second too great by one, though it does not count", 0, k.aHigh + 1, k.bLow, api.ErrArg},
			{"the second negative", 1, -1, k.bLow, api.ErrArg},
			{"the second far too great", 1, math.MaxInt, k.bLow, api.ErrArg},
			{"the second far below 0", 1, math.MinInt, k.bLow, api.ErrArg},
			{"the third at the most", 1, 0, k.bHigh, api.OK},
			{"the third too great by one", 1, 0, k.bHigh + 1, api.ErrArg},
			{"the third too great by one, though it does not count", 0, 0, k.bHigh + 1, api.ErrArg},
			{"the third too little by one", 1, 0, k.bLow - 1, api.ErrArg},
			{"the third far too great", 1, 0, math.MaxInt, api.ErrArg},
			{"the third far too little", 1, 0, math.MinInt, api.ErrArg},
		} {
			if got, e := k.call(x.h, x.a, x.b); e != x.want || (e == api.OK) != (len(got) > 0) {
				t.Errorf("%s, %s: %v %d, not %d", k.name, x.name, got, e, x.want)
			}
		}
	}
}

func TestLarge(t *testing.T) { // P18, P19, P20, and P6 on results that are too great
	top := api.MaxVal
	for _, x := range []struct {
		name    string
		call    func(h, a, b int) ([]int, api.Errno)
		h, a, b int
		last    int
		want    api.Errno
	}{
		{"a burst at the limit", shape.Bucket, 60, 0, top, top, api.OK},
		{"a burst at the limit that never comes", shape.Bucket, 0, 10000, top, 0, api.OK},
		{"a burst at the limit, and a rate", shape.Bucket, 1, 1, top, 0, api.ErrLarge},
		{"at the limit at the last time", shape.Bucket, 60, 10000, 400000, top, api.OK},
		{"above it by one at the last time", shape.Bucket, 60, 10000, 400001, 0, api.ErrLarge},
		{"above it after the last time only", shape.Bucket, 59, 10000, 410000, top, api.OK},
		{"all at the most", shape.Bucket, 60, 10000, top, 0, api.ErrLarge},
		{"a wrong time ahead of a value that is too great", shape.Bucket, 61, 1, top, 0, api.ErrArg},
		{"a wrong rate ahead of a value that is too great", shape.Bucket, 60, 10001, top, 0, api.ErrArg},
		{"a wrong burst ahead of a value that is too great", shape.Bucket, 60, 10000, top + 1, 0, api.ErrArg},
		{"the greatest line", shape.Line, 60, 10000, 0, 600000, api.OK},
		{"the greatest stair", shape.Stair, 60, 10000, 1, 600000, api.OK},
	} {
		got, e := x.call(x.h, x.a, x.b)
		if e != x.want || e != api.OK && len(got) != 0 {
			t.Errorf("%s: %v %d, not %d", x.name, got, e, x.want)
		}
		if e == api.OK && (len(got) != x.h+1 || got[x.h] != x.last) {
			t.Errorf("%s: %v, though it ends with %d", x.name, got, x.last)
		}
	}
}

func TestNothingPanics(t *testing.T) { // P1
	for _, k := range kinds() {
		for _, h := range samples.Numbers() {
			for _, a := range samples.Numbers() {
				for _, b := range samples.Numbers() {
					if !k.right(h, a, b) {
						got, e := k.call(h, a, b)
						t.Errorf("%s of %d, %d, %d: %v %d", k.name, h, a, b, got, e)
					}
				}
			}
		}
	}
}

func TestResultsAreNew(t *testing.T) { // P2
	for _, k := range kinds() {
		for _, h := range []int{0, 3, 60} {
			if fault := samples.Shares(nil, func() ([]int, api.Errno) { return k.call(h, 5, 2) }); fault != "" {
				t.Errorf("%s up to %d: %s", k.name, h, fault)
			}
		}
	}
}
