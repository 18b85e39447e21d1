package bound_test

import (
	"slices"
	"testing"

	"headway/api"
	"headway/bound"
	"headway/conv"
	"headway/curve"
	"headway/samples"
	"headway/shape"
	"headway/trace"
)

// back is Back by the chapter's words.
func back(a, b []int) int {
	all := []int{0}
	for t := range a {
		all = append(all, a[t]-b[t])
	}
	return slices.Max(all)
}

// delay is Delay by the chapter's words.
func delay(a, b []int) (int, api.Errno) {
	last := len(a) - 1
	for d := 0; d <= last; d++ {
		holds := true
		for t := 0; t <= last-d; t++ {
			holds = holds && a[t] <= b[t+d]
		}
		if holds {
			return d, api.OK
		}
	}
	return 0, api.ErrNone
}

func TestBack(t *testing.T) { // P25
	top := api.MaxVal
	for _, x := range []struct {
		name string
		a, b []int
		want int
	}{
		{"the document's", []int{0, 5, 6}, []int{0, 1, 4}, 4},
		{"turned", []int{0, 1, 4}, []int{0, 5, 6}, 0},
		{"the most at the first time", []int{5, 5, 5}, []int{1, 4, 5}, 4},
		{"the most at the last time", []int{0, 1, 9}, []int{0, 1, 2}, 7},
		{"above, then below", []int{0, 3, 3}, []int{0, 1, 9}, 2},
		{"below, then above", []int{0, 3, 9}, []int{5, 5, 5}, 4},
		{"equal", []int{0, 3, 9}, []int{0, 3, 9}, 0},
		{"one value", []int{7}, []int{4}, 3},
		{"one value, below", []int{4}, []int{7}, 0},
		{"nothing", []int{0, 0}, []int{0, 0}, 0},
		{"the greatest", []int{0, top}, []int{0, 0}, top},
		{"the farthest below", []int{0, 0}, []int{top, top}, 0},
		{"61 values, above at the last", append(samples.Slope(60, 0, 1), 99), samples.Slope(61, 0, 1), 39},
	} {
		if got, e := bound.Back(x.a, x.b); got != x.want || e != api.OK {
			t.Errorf("%s: %d %d, not %d", x.name, got, e, x.want)
		}
	}
}

func TestDelay(t *testing.T) { // P26
	top := api.MaxVal
	for _, x := range []struct {
		name string
		a, b []int
		want int
		e    api.Errno
	}{
		{"behind by two", []int{0, 5, 6, 6}, []int{0, 1, 4, 6}, 2, api.OK},
		{"turned", []int{0, 1, 4, 6}, []int{0, 5, 6, 6}, 0, api.OK},
		{"equal", []int{0, 3, 9}, []int{0, 3, 9}, 0, api.OK},
		{"later by one", []int{1, 2, 7, 8}, []int{0, 1, 2, 7}, 1, api.OK},
		{"later by two", []int{1, 2, 7, 8}, []int{0, 0, 1, 2}, 2, api.OK},
		{"only at the last time is there as much as at the first", []int{4, 4, 4}, []int{0, 0, 4}, 2, api.OK},
		{"the last time is enough for the first, though never for the rest", []int{4, 9, 9}, []int{0, 0, 4}, 2, api.OK},
		{"what comes at the end and never leaves", []int{0, 0, 9}, []int{0, 0, 0}, 1, api.OK},
		{"what comes after time 0 and never leaves", []int{0, 9, 9}, []int{0, 0, 0}, 2, api.OK},
		{"one too few at the last time", []int{4, 4, 4}, []int{0, 0, 3}, 0, api.ErrNone},
		{"none ever", []int{1, 1}, []int{0, 0}, 0, api.ErrNone},
		{"the longest of several waits", []int{0, 2, 2, 4, 4, 4, 4}, []int{0, 0, 2, 2, 2, 2, 4}, 3, api.OK},
		{"one value", []int{7}, []int{7}, 0, api.OK},
		{"one value, below", []int{4}, []int{7}, 0, api.OK},
		{"one value, above", []int{8}, []int{7}, 0, api.ErrNone},
		{"the greatest", []int{top, top}, []int{0, top}, 1, api.OK},
		{"the greatest, and one too few", []int{top, top}, []int{0, top - 1}, 0, api.ErrNone},
		{"61 values, at the last time", samples.Slope(61, 1, 0), append(make([]int, 60), 1), 60, api.OK},
		{"61 values, none", samples.Slope(61, 1, 0), make([]int, 61), 0, api.ErrNone},
	} {
		if got, e := bound.Delay(x.a, x.b); got != x.want || e != x.e {
			t.Errorf("%s: %d %d, not %d %d", x.name, got, e, x.want, x.e)
		}
	}
}

func TestAll(t *testing.T) { // P25, P26
	for a, b := range samples.Pairs() {
		if got, e := bound.Back(a, b); got != back(a, b) || e != api.OK {
			t.Fatalf("back of %v, %v: %d %d, not %d", a, b, got, e, back(a, b))
		}
		want, none := delay(a, b)
		if got, e := bound.Delay(a, b); got != want || e != none {
			t.Fatalf("delay of %v, %v: %d %d, not %d %d", a, b, got, e, want, none)
		}
	}
}

// TestBoundsHold: what conforms to a limit, and is served by a curve, waits no more and no longer than the limit itself.
func TestBoundsHold(t *testing.T) { // P25, P26
	serve, _ := shape.Line(5, 2, 1)
	limits := [][]int{{0, 1, 2, 3, 4, 5}, {0, 4, 5, 6, 9, 9}, {2, 4, 4, 8, 8, 12}}
	conforming := 0
	for _, f := range samples.Steps() {
		own, _ := trace.Env(f)
		left, _ := conv.Of(f, serve)
		for _, limit := range append(limits, own) {
			if is, _ := trace.Fits(f, limit); !is {
				continue
			}
			conforming++
			most, _ := bound.Back(limit, serve)
			if got, e := bound.Back(f, left); got > most || e != api.OK {
				t.Errorf("%v within %v: %d %d wait, not at most %d", f, limit, got, e, most)
			}
			longest, none := bound.Delay(limit, serve)
			if got, e := bound.Delay(f, left); none == api.OK && (got > longest || e != api.OK) {
				t.Errorf("%v within %v: it waits %d %d, not at most %d", f, limit, got, e, longest)
			}
		}
	}
	if conforming <= len(samples.Steps()) {
		t.Error("no curve conforms to a limit other than its own")
	}
}

func TestErrors(t *testing.T) { // P25, P26
	for _, x := range samples.WrongPairs() {
		if got, e := bound.Back(x.F, x.G); got != 0 || e != x.Want {
			t.Errorf("back: %s: %d %d, not %d", x.Name, got, e, x.Want)
		}
		if got, e := bound.Delay(x.F, x.G); got != 0 || e != x.Want {
			t.Errorf("delay: %s: %d %d, not %d", x.Name, got, e, x.Want)
		}
	}
	for _, x := range samples.WrongCurves() {
		for _, g := range [][]int{nil, {0}, {0, 3, 3}, samples.Slope(62, 0, 1)} {
			if got, e := bound.Back(x.F, g); got != 0 || e != x.Want {
				t.Errorf("back: %s, %v: %d %d, not %d", x.Name, g, got, e, x.Want)
			}
			if got, e := bound.Delay(x.F, g); got != 0 || e != x.Want {
				t.Errorf("delay: %s, %v: %d %d, not %d", x.Name, g, got, e, x.Want)
			}
		}
		if got, e := bound.Back([]int{5}, x.F); got != 0 || e != x.Want {
			t.Errorf("back: second: %s: %d %d, not %d", x.Name, got, e, x.Want)
		}
		if got, e := bound.Delay([]int{5}, x.F); got != 0 || e != x.Want {
			t.Errorf("delay: second: %s: %d %d, not %d", x.Name, got, e, x.Want)
		}
	}
}

func TestNothingPanics(t *testing.T) { // P1
	for _, a := range samples.Strange() {
		for _, b := range samples.Strange() {
			n, d := 0, 0
			_, e := curve.Le(a, b)
			late := e
			if e == api.OK {
				n = back(a, b)
				d, late = delay(a, b)
			}
			if got, e2 := bound.Back(a, b); got != n || e2 != e {
				t.Errorf("back of %v, %v: %d %d, not %d %d", a, b, got, e2, n, e)
			}
			if got, e2 := bound.Delay(a, b); got != d || e2 != late {
				t.Errorf("delay of %v, %v: %d %d, not %d %d", a, b, got, e2, d, late)
			}
		}
	}
}

func TestArgumentsStay(t *testing.T) { // P2
	a, b := []int{0, 5, 6, 6, 77, 78}, []int{0, 1, 4, 6, 7, 88, 89}
	aBefore, bBefore := slices.Clone(a), slices.Clone(b)
	if n, e := bound.Back(a[:4], b[:4]); n != 4 || e != api.OK {
		t.Errorf("the spare room counts: %d %d", n, e)
	}
	if n, e := bound.Delay(a[:4], b[:4]); n != 2 || e != api.OK {
		t.Errorf("the spare room counts: %d %d", n, e)
	}
	if n, e := bound.Delay(a[1:2], b[1:2]); n != 0 || e != api.ErrNone {
		t.Errorf("the spare room counts: %d %d", n, e)
	}
	if !slices.Equal(a, aBefore) || !slices.Equal(b, bBefore) {
		t.Errorf("an argument has changed: %v, %v", a, b)
	}
}
