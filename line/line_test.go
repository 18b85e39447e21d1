package line_test

import (
	"math"
	"slices"
	"testing"

	"headway/api"
	"headway/bound"
	"headway/conv"
	"headway/line"
	"headway/samples"
	"headway/shape"
	"headway/trace"
)

// rates returns rates within their bounds.
func rates() []int { return []int{0, 1, 2, 3, 4, 5, 9, 100, 9999, 10000} }

// run is Run by the chapter's words, one by one: each of those that wait leaves, as long as the slot has room.
func run(a []int, rate int) (gone, left []int) {
	waits := 0
	for _, n := range a {
		waits += n
		leaves := 0
		for waits > 0 && leaves < rate {
			waits--
			leaves++
		}
		gone, left = append(gone, leaves), append(left, waits)
	}
	return gone, left
}

// busy is Busy by the chapter's words: the longest stretch of slots after each of which something waits.
func busy(left []int) int {
	longest := 0
	for i := range left {
		for j := i; j <= len(left); j++ {
			if !slices.Contains(left[i:j], 0) {
				longest = max(longest, j-i)
			}
		}
	}
	return longest
}

func TestRun(t *testing.T) { // P32
	for _, x := range []struct {
		name       string
		a          []int
		rate       int
		gone, left []int
	}{
		{"the document's", []int{5}, 2, []int{2}, []int{3}},
		{"the document's, and what follows", []int{5, 0, 1, 0}, 2, []int{2, 2, 2, 0}, []int{3, 1, 0, 0}},
		{"no slots", nil, 2, nil, nil},
		{"no slots with spare room", make([]int, 0, 9), 2, nil, nil},
		{"nothing comes", []int{0, 0}, 2, []int{0, 0}, []int{0, 0}},
		{"what comes leaves in its slot", []int{2, 1, 2}, 2, []int{2, 1, 2}, []int{0, 0, 0}},
		{"one more than the rate", []int{3}, 2, []int{2}, []int{1}},
		{"the rate of an empty slot is lost", []int{0, 0, 6}, 2, []int{0, 0, 2}, []int{0, 0, 4}},
		{"what is left of a slot's rate is lost", []int{1, 3}, 2, []int{1, 2}, []int{0, 1}},
		{"the buffer grows", []int{3, 3, 3}, 2, []int{2, 2, 2}, []int{1, 2, 3}},
		{"the last leave with those that come", []int{3, 1, 1}, 2, []int{2, 2, 1}, []int{1, 0, 0}},
		{"no rate", []int{4, 0, 3}, 0, []int{0, 0, 0}, []int{4, 4, 7}},
		{"the greatest rate", []int{10000, 7}, 10000, []int{10000, 7}, []int{0, 0}},
		{"just below the greatest rate", []int{10000, 9999}, 9999, []int{9999, 9999}, []int{1, 1}},
		{"60 slots, all wait", samples.Same(60, 10000), 0, samples.Same(60, 0), samples.Slope(60, 10000, 10000)},
		{"60 slots, half of it waits", samples.Same(60, 10000), 5000, samples.Same(60, 5000), samples.Slope(60, 5000, 5000)},
		{"60 slots, none waits", samples.Same(60, 10000), 10000, samples.Same(60, 10000), samples.Same(60, 0)},
		{"60 slots of one burst", append([]int{60}, make([]int, 59)...), 1, samples.Same(60, 1), samples.Slope(60, 59, -1)},
	} {
		gone, left, e := line.Run(x.a, x.rate)
		if e != api.OK || !slices.Equal(gone, x.gone) || !slices.Equal(left, x.left) {
			t.Errorf("%s: %v %v %d, not %v %v", x.name, gone, left, e, x.gone, x.left)
		}
	}
}

func TestBusy(t *testing.T) { // P33
	for _, x := range []struct {
		name string
		a    []int
		rate int
		want int
	}{
		{"two stretches, the first longer", []int{5, 0, 1, 0, 3}, 2, 2},
		{"two stretches, the last longer", []int{3, 0, 0, 9, 0, 0, 0, 0}, 2, 4},
		{"two stretches of one length", []int{4, 0, 4, 0}, 3, 1},
		{"no slots", nil, 2, 0},
		{"nothing comes", []int{0, 0}, 2, 0},
		{"nothing comes, and nothing could leave", []int{0, 0}, 0, 0},
		{"what comes leaves in its slot", []int{2, 2, 2}, 2, 0},
		{"after the only slot", []int{3}, 2, 1},
		{"after the last slot", []int{0, 0, 3}, 2, 1},
		{"an empty slot amid a stretch", []int{5, 0, 2, 0, 0}, 2, 3},
		{"a buffer that empties once amid", []int{3, 1, 3, 1, 3}, 2, 1},
		{"no rate, from the second slot on", []int{0, 1, 0, 0}, 0, 3},
		{"all 60 slots", samples.Same(60, 10000), 9999, 60},
		{"none of 60 slots", samples.Same(60, 10000), 10000, 0},
		{"59 slots of one burst", append([]int{60}, make([]int, 59)...), 1, 59},
		{"60 slots of one burst", append([]int{61}, make([]int, 59)...), 1, 60},
	} {
		if got, e := line.Busy(x.a, x.rate); got != x.want || e != api.OK {
			t.Errorf("%s: %d %d, not %d", x.name, got, e, x.want)
		}
	}
}

func TestAll(t *testing.T) { // P32, P33
	for _, a := range samples.Traces() {
		for _, rate := range rates() {
			wantGone, wantLeft := run(a, rate)
			gone, left, e := line.Run(a, rate)
			if e != api.OK || !slices.Equal(gone, wantGone) || !slices.Equal(left, wantLeft) {
				t.Fatalf("%v, %d: %v %v %d, not %v %v", a, rate, gone, left, e, wantGone, wantLeft)
			}
			if got, e := line.Busy(a, rate); got != busy(wantLeft) || e != api.OK {
				t.Fatalf("busy of %v, %d: %d %d, not %d", a, rate, got, e, busy(wantLeft))
			}
		}
	}
}

// TestRunIsAServer: what has left by each time is the convolution of what has come and the link's own curve, and the rest waits.
func TestRunIsAServer(t *testing.T) { // P32
	for _, a := range samples.Traces() {
		come, _ := trace.Sum(a)
		for _, rate := range rates() {
			gone, left, _ := line.Run(a, rate)
			serve, _ := shape.Line(len(a), rate, 0)
			want, _ := conv.Of(come, serve)
			got, e := trace.Sum(gone)
			if e != api.OK || !slices.Equal(got, want) {
				t.Fatalf("%v, %d: by each time %v %d, not %v", a, rate, got, e, want)
			}
			for i, waits := range left {
				if waits != come[i+1]-got[i+1] {
					t.Fatalf("%v, %d: %v wait, though %v have come and %v have left", a, rate, left, come, got)
				}
			}
		}
	}
}

// TestBoundsHold: no more waits, and no longer, than is reckoned from the envelope of what comes.
func TestBoundsHold(t *testing.T) { // P32
	held := 0
	for _, a := range samples.Traces() {
		come, _ := trace.Sum(a)
		env, _ := trace.Env(come)
		for _, rate := range rates() {
			gone, left, _ := line.Run(a, rate)
			serve, _ := shape.Line(len(a), rate, 0)
			most, _ := bound.Back(env, serve)
			if len(left) > 0 && slices.Max(left) > most {
				t.Fatalf("%v, %d: %v wait, not at most %d", a, rate, left, most)
			}
			longest, none := bound.Delay(env, serve)
			if none != api.OK {
				continue
			}
			by, _ := trace.Sum(gone)
			if got, e := bound.Delay(come, by); got > longest || e != api.OK {
				t.Fatalf("%v, %d: it waits %d %d, not at most %d", a, rate, got, e, longest)
			}
			held += longest
		}
	}
	if held == 0 {
		t.Error("nothing ever waits")
	}
}

func TestErrors(t *testing.T) { // P32, P33
	for _, x := range samples.TraceCases() {
		for _, rate := range []int{math.MinInt, -1, 0, 1, 10000, 10001, math.MaxInt} {
			want := x.Want
			if want == api.OK && (rate < 0 || rate > 10000) {
				want = api.ErrArg
			}
			size := 0
			if want == api.OK {
				size = len(x.A)
			}
			gone, left, e := line.Run(x.A, rate)
			if e != want || len(gone) != size || len(left) != size {
				t.Errorf("run: %s, %d: %v %v %d, not %d", x.Name, rate, gone, left, e, want)
			}
			if n, e := line.Busy(x.A, rate); e != want || n < 0 || n > size {
				t.Errorf("busy: %s, %d: %d %d, not %d", x.Name, rate, n, e, want)
			}
		}
	}
}

func TestNothingPanics(t *testing.T) { // P1
	for _, a := range samples.Strange() {
		for _, rate := range samples.Numbers() {
			want := trace.Check(a)
			if want == api.OK && (rate < 0 || rate > 10000) {
				want = api.ErrArg
			}
			gone, left, e := line.Run(a, rate)
			if e != want || e != api.OK && len(gone)+len(left) != 0 {
				t.Errorf("run of %v, %d: %v %v %d, not %d", a, rate, gone, left, e, want)
			}
			if n, e := line.Busy(a, rate); e != want || e != api.OK && n != 0 {
				t.Errorf("busy of %v, %d: %d %d, not %d", a, rate, n, e, want)
			}
		}
	}
}

func TestArgumentsStay(t *testing.T) { // P2
	room := []int{5, 0, 1, 0, 77, 78}
	for _, call := range []func() ([]int, api.Errno){
		func() ([]int, api.Errno) { gone, _, e := line.Run(room[:4], 2); return gone, e },
		func() ([]int, api.Errno) { _, left, e := line.Run(room[:4], 2); return left, e },
	} {
		if fault := samples.Shares([][]int{room}, call); fault != "" {
			t.Error(fault)
		}
	}
	before := slices.Clone(room)
	if n, e := line.Busy(room[:4], 2); n != 2 || e != api.OK || !slices.Equal(room, before) {
		t.Errorf("%d %d, and the argument is %v", n, e, room)
	}
}

// TestResultsAreApart: neither result reaches the other through its spare room, even where the numbers are the same.
func TestResultsAreApart(t *testing.T) { // P2
	for _, a := range [][]int{{5, 0, 1, 0}, {0, 0}, {4, 2}} {
		if fault := samples.Apart(func() ([]int, []int, api.Errno) { return line.Run(a, 2) }); fault != "" {
			t.Errorf("%v: %s", a, fault)
		}
	}
}
