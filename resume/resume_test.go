package resume_test

import (
	"math"
	"slices"
	"testing"

	"headway/api"
	"headway/catch"
	"headway/piece"
	"headway/resume"
	"headway/samples"
)

// bools returns b, n times.
func bools(n int, b bool) []bool { return slices.Repeat([]bool{b}, n) }

// dealt is Run otherwise: the bytes come one by one, those of whole pieces apart from those of the piece that is not whole.
func dealt(size, unit, rate int, crash []bool) []int {
	var out []int
	whole, part := 0, 0
	for _, lost := range crash {
		for range rate {
			if whole+part == size {
				break
			}
			part++
			if part == unit {
				whole, part = whole+part, 0
			}
		}
		if lost && whole+part != size {
			part = 0
		}
		out = append(out, whole+part)
	}
	return out
}

// counted is Bound otherwise, slot by slot; -1 if there is no such slot.
func counted(size, unit, rate, crashes int) int {
	for range crashes {
		if size > 0 {
			size += unit - 1
		}
	}
	slots := 0
	for size > 0 {
		if rate == 0 {
			return -1
		}
		size -= rate
		slots++
	}
	return slots
}

// crashLists returns all lists of up to 6 slots with and without crashes.
func crashLists() [][]bool { return samples.Lists([]bool{false, true}, 6) }

// longLists returns lists of 200 slots.
func longLists() [][]bool {
	out := [][]bool{bools(200, false), bools(200, true)}
	for _, every := range []int{2, 3, 7, 50, 199} {
		l := bools(200, false)
		for t := every - 1; t < 200; t += every {
			l[t] = true
		}
		out = append(out, l)
	}
	return out
}

// thingCase: a thing and a rate, and whether one of them is out of its bounds.
type thingCase struct {
	name             string
	size, unit, rate int
	bad              bool
}

func thingCases() []thingCase {
	return []thingCase{
		{"ordinary", 7, 3, 2, false},
		{"all at the least", 0, 1, 0, false},
		{"all at the most", 1000000, 1000000, 10000, false},
		{"nothing at all, at a rate", 0, 3, 2, false},
		{"no rate", 7, 3, 0, false},
		{"more pieces than a transfer has", 1000000, 1, 1, false},
		{"a piece greater than the thing", 7, 1000000, 2, false},
		{"a negative size", -1, 3, 2, true},
		{"too great a size by one", 1000001, 3, 2, true},
		{"the least size of all", math.MinInt, 3, 2, true},
		{"the greatest size of all", math.MaxInt, 3, 2, true},
		{"no unit", 7, 0, 2, true},
		{"no unit of nothing", 0, 0, 2, true},
		{"a negative unit", 7, -1, 2, true},
		{"too great a unit by one", 7, 1000001, 2, true},
		{"too great a unit of nothing", 0, 1000001, 0, true},
		{"the least unit of all", 7, math.MinInt, 2, true},
		{"the greatest unit of all", 7, math.MaxInt, 2, true},
		{"a negative rate", 7, 3, -1, true},
		{"a negative rate of nothing", 0, 3, -1, true},
		{"too great a rate by one", 7, 3, 10001, true},
		{"too great a rate of nothing", 0, 3, 10001, true},
		{"the least rate of all", 7, 3, math.MinInt, true},
		{"the greatest rate of all", 7, 3, math.MaxInt, true},
		{"no unit, no rate", 7, 0, 0, true},
		{"all wrong", -1, 0, -1, true},
		{"the greatest of all", math.MaxInt, math.MaxInt, math.MaxInt, true},
	}
}

func TestRun(t *testing.T) { // P70
	no, yes := false, true
	for _, x := range []struct {
		name             string
		size, unit, rate int
		crash            []bool
		want             []int
	}{
		{"the document's", 9, 3, 4, []bool{yes}, []int{3}},
		{"no slots", 7, 3, 2, nil, nil},
		{"no crash", 7, 3, 2, []bool{no, no, no, no, no}, []int{2, 4, 6, 7, 7}},
		{"a crash in the midst", 7, 3, 2, []bool{no, yes, no, no}, []int{2, 3, 5, 7}},
		{"a crash in the first slot", 7, 3, 2, []bool{yes, no, no, no, no}, []int{0, 2, 4, 6, 7}},
		{"a crash ahead of the first whole piece, each time", 7, 3, 2, []bool{yes, yes, yes, yes}, []int{0, 0, 0, 0}},
		{"a crash in each slot, a whole piece in each", 7, 3, 3, []bool{yes, yes, yes, yes}, []int{3, 6, 7, 7}},
		{"a crash in each slot, more than a piece in each", 9, 3, 5, []bool{yes, yes, yes}, []int{3, 6, 9}},
		{"a crash after just a whole piece", 9, 3, 3, []bool{no, yes, no}, []int{3, 6, 9}},
		{"two whole pieces and a part", 9, 3, 8, []bool{yes, no}, []int{6, 9}},
		{"one byte short of whole pieces", 9, 4, 7, []bool{yes, no}, []int{4, 9}},
		{"pieces of a byte lose nothing", 7, 1, 2, []bool{yes, yes, yes, yes}, []int{2, 4, 6, 7}},
		{"a shorter last piece that is there is whole", 7, 3, 7, []bool{yes, yes}, []int{7, 7}},
		{"a shorter last piece that lacks a byte", 8, 3, 7, []bool{yes, no, no}, []int{6, 8, 8}},
		{"a complete thing loses nothing", 7, 3, 4, []bool{no, no, yes, yes}, []int{4, 7, 7, 7}},
		{"complete in the slot of the crash", 7, 3, 4, []bool{no, yes, no}, []int{4, 7, 7}},
		{"a piece greater than the thing", 7, 9, 3, []bool{no, yes, no, no, yes}, []int{3, 0, 3, 6, 7}},
		{"no rate", 7, 3, 0, []bool{no, yes}, []int{0, 0}},
		{"nothing at all", 0, 3, 2, []bool{no, yes}, []int{0, 0}},
		{"nothing at all, no rate", 0, 1, 0, []bool{yes}, []int{0}},
		{"the most, by the greatest rate", 1000000, 1000000, 10000, bools(100, false), samples.Slope(100, 10000, 10000)},
		{"the most, with a crash a byte ahead of the end", 1000000, 1000000, 10000, append(bools(98, false), true), append(samples.Slope(98, 10000, 10000), 0)},
		{"200 slots with crashes, the least piece", 1000000, 1, 10000, bools(200, true), append(samples.Slope(100, 10000, 10000), samples.Same(100, 1000000)...)},
		{"200 slots with crashes, a piece just too great", 1000000, 10001, 10000, bools(200, true), samples.Same(200, 0)},
	} {
		if got, e := resume.Run(x.size, x.unit, x.rate, x.crash); e != api.OK || !slices.Equal(got, x.want) {
			t.Errorf("%s: %v %d, not %v", x.name, got, e, x.want)
		}
	}
}

func TestBound(t *testing.T) { // P71
	for _, x := range []struct {
		name                      string
		size, unit, rate, crashes int
		want                      int
		e                         api.Errno
	}{
		{"one crash", 7, 3, 2, 1, 5, api.OK},
		{"no crash", 7, 3, 2, 0, 4, api.OK},
		{"no crash, as much as the rate divides", 8, 3, 2, 0, 4, api.OK},
		{"two crashes", 7, 3, 2, 2, 6, api.OK},
		{"one byte more than the rate divides", 7, 3, 5, 2, 3, api.OK},
		{"as much as the rate divides, with crashes", 6, 3, 5, 2, 2, api.OK},
		{"pieces of a byte lose nothing", 7, 1, 2, 200, 4, api.OK},
		{"a piece greater than the thing", 7, 9, 2, 1, 8, api.OK},
		{"all in one slot", 7, 3, 7, 0, 1, api.OK},
		{"one byte at the greatest rate", 1, 1, 10000, 200, 1, api.OK},
		{"nothing at all", 0, 3, 2, 9, 0, api.OK},
		{"nothing at all, no rate", 0, 3, 0, 9, 0, api.OK},
		{"nothing at all, no rate, no crash", 0, 1, 0, 0, 0, api.OK},
		{"no rate", 7, 3, 0, 1, 0, api.ErrNone},
		{"no rate, no crash", 7, 3, 0, 0, 0, api.ErrNone},
		{"no rate, one byte", 1, 1, 0, 0, 0, api.ErrNone},
		{"the most", 1000000, 1000000, 10000, 200, 20100, api.OK},
		{"the most, and slowest", 1000000, 1000000, 1, 200, 200999800, api.OK},
		{"the greatest thing, no crash", 1000000, 1000000, 10000, 0, 100, api.OK},
		{"one byte short of it", 999999, 1000000, 9999, 0, 101, api.OK},
	} {
		if got, e := resume.Bound(x.size, x.unit, x.rate, x.crashes); e != x.e || got != x.want {
			t.Errorf("%s: %d %d, not %d %d", x.name, got, e, x.want, x.e)
		}
	}
}

// TestRunErrors: a wrong thing or rate goes ahead of too many slots; with an error, all else is zero.
func TestRunErrors(t *testing.T) { // P70
	for _, x := range thingCases() {
		for _, n := range []int{0, 1, 199, 200, 201, 5000} {
			want, size := api.OK, n
			switch {
			case x.bad:
				want, size = api.ErrArg, 0
			case n > 200:
				want, size = api.ErrLarge, 0
			}
			for _, b := range []bool{false, true} {
				if got, e := resume.Run(x.size, x.unit, x.rate, bools(n, b)); e != want || len(got) != size {
					t.Errorf("%s, %d slots: %v %d, not %d", x.name, n, got, e, want)
				}
			}
		}
	}
}

// TestBoundErrors: a wrong thing, rate or number of crashes goes ahead of a rate of 0; with an error, all else is zero.
func TestBoundErrors(t *testing.T) { // P71
	for _, x := range thingCases() {
		for _, crashes := range []int{math.MinInt, -1, 0, 1, 199, 200, 201, math.MaxInt} {
			want := api.OK
			switch {
			case x.bad || crashes < 0 || crashes > 200:
				want = api.ErrArg
			case x.size > 0 && x.rate == 0:
				want = api.ErrNone
			}
			if n, e := resume.Bound(x.size, x.unit, x.rate, crashes); e != want || (n > 0) != (want == api.OK && x.size > 0) || n < 0 {
				t.Errorf("%s, %d crashes: %d %d, not %d", x.name, crashes, n, e, want)
			}
		}
	}
}

// TestRunDealt holds what is there against bytes that come one by one.
func TestRunDealt(t *testing.T) { // P70
	for size := range 10 {
		for unit := 1; unit <= 6; unit++ {
			for rate := range 8 {
				for _, crash := range crashLists() {
					want := dealt(size, unit, rate, crash)
					if got, e := resume.Run(size, unit, rate, crash); e != api.OK || !slices.Equal(got, want) {
						t.Fatalf("%d, %d, %d, %v: %v %d, not %v", size, unit, rate, crash, got, e, want)
					}
				}
			}
		}
	}
	for _, size := range []int{1, 199, 200, 1000, 100000, 1000000} {
		for _, unit := range []int{1, 2, 7, 100, 4999, 5000, 1000000} {
			for _, rate := range []int{0, 1, 3, 50, 997, 10000} {
				for _, crash := range longLists() {
					want := dealt(size, unit, rate, crash)
					if got, e := resume.Run(size, unit, rate, crash); e != api.OK || !slices.Equal(got, want) {
						t.Fatalf("%d, %d, %d, %v: %v %d, not %v", size, unit, rate, crash, got, e, want)
					}
				}
			}
		}
	}
}

// TestWithoutCrashes: without a crash, what is missing is what a follower lags whom nothing more comes to.
func TestWithoutCrashes(t *testing.T) { // P70, P71
	for _, size := range []int{0, 1, 2, 7, 60, 599999, 600000, 600001, 1000000} {
		for _, rate := range []int{0, 1, 2, 3, 100, 10000} {
			lags, _ := catch.Lag(samples.Same(60, 0), rate, size)
			want := samples.Values(60, func(t int) int { return size - lags[t+1] })
			if got, e := resume.Run(size, 3, rate, bools(60, false)); e != api.OK || !slices.Equal(got, want) {
				t.Fatalf("%d, %d: %v %d, not %v", size, rate, got, e, want)
			}
			by, e := resume.Bound(size, 3, rate, 0)
			if done, none := catch.Done(samples.Same(60, 0), rate, size); none == api.OK && (e != api.OK || by != done) {
				t.Fatalf("%d, %d: %d %d, not %d", size, rate, by, e, done)
			}
		}
	}
}

// TestWholePieces: what a crash leaves is whole pieces, from the first on.
func TestWholePieces(t *testing.T) { // P70
	for size := 1; size < 12; size++ {
		for unit := 1; unit <= 6; unit++ {
			sizes, _ := piece.Sizes(size, unit)
			ends := []int{0}
			for i, n := range sizes {
				ends = append(ends, ends[i]+n)
			}
			for rate := range 8 {
				for _, crash := range crashLists() {
					got, e := resume.Run(size, unit, rate, crash)
					for slot, n := range got {
						if e != api.OK || crash[slot] && !slices.Contains(ends, n) {
							t.Fatalf("%d, %d, %d, %v: %v %d: not whole", size, unit, rate, crash, got, e)
						}
					}
				}
			}
		}
	}
}

// TestBoundCounted holds the bound against that which is counted slot by slot.
func TestBoundCounted(t *testing.T) { // P71
	for size := range 30 {
		for unit := 1; unit <= 9; unit++ {
			for rate := range 12 {
				for _, crashes := range []int{0, 1, 2, 3, 7, 199, 200} {
					want, wantE := counted(size, unit, rate, crashes), api.OK
					if want < 0 {
						want, wantE = 0, api.ErrNone
					}
					if got, e := resume.Bound(size, unit, rate, crashes); e != wantE || got != want {
						t.Fatalf("%d, %d, %d, %d: %d %d, not %d %d", size, unit, rate, crashes, got, e, want, wantE)
					}
				}
			}
		}
	}
}

// TestBoundHolds: whenever the crashes come, all is there by the bound.
func TestBoundHolds(t *testing.T) { // P70, P71
	held, met := 0, 0
	hold := func(size, unit, rate int, crash []bool) {
		crashes := 0
		for _, lost := range crash {
			if lost {
				crashes++
			}
		}
		by, none := resume.Bound(size, unit, rate, crashes)
		if none != api.OK || by == 0 || by > len(crash) {
			return
		}
		got, e := resume.Run(size, unit, rate, crash)
		if e != api.OK || got[by-1] != size {
			t.Fatalf("%d, %d, %d, %v: %v %d: not by %d", size, unit, rate, crash, got, e, by)
		}
		held++
		if crashes > 0 && slices.Index(got, size) == by-1 {
			met++
		}
	}
	for size := range 10 {
		for unit := 1; unit <= 6; unit++ {
			for rate := range 8 {
				for _, crash := range crashLists() {
					hold(size, unit, rate, crash)
				}
			}
		}
	}
	for _, size := range []int{1, 199, 200, 1000, 100000} {
		for _, unit := range []int{1, 2, 7, 100, 4999} {
			for _, rate := range []int{1, 3, 50, 997, 10000} {
				for _, crash := range longLists() {
					hold(size, unit, rate, crash)
				}
			}
		}
	}
	if held == 0 || met == 0 {
		t.Errorf("the bound is held %d times, and met by crashes %d times", held, met)
	}
}

func TestNothingPanics(t *testing.T) { // P1
	numbers := append(samples.Numbers(), 199, 200, 201)
	for _, size := range numbers {
		for _, unit := range numbers {
			for _, rate := range numbers {
				want := api.OK
				if size < 0 || size > 1000000 || unit < 1 || unit > 1000000 || rate < 0 || rate > 10000 {
					want = api.ErrArg
				}
				for _, crash := range [][]bool{nil, {}, {true}, {false}, {false, true}, make([]bool, 200)} {
					if got, e := resume.Run(size, unit, rate, crash); e != want || e != api.OK && len(got) != 0 || e == api.OK && len(got) != len(crash) {
						t.Fatalf("run: %d, %d, %d, %v: %v %d, not %d", size, unit, rate, crash, got, e, want)
					}
				}
				for _, crashes := range numbers {
					right := want == api.OK && crashes >= 0 && crashes <= 200 && (size == 0 || rate > 0)
					if n, e := resume.Bound(size, unit, rate, crashes); (e == api.OK) != right || e != api.OK && n != 0 {
						t.Fatalf("bound: %d, %d, %d, %d: %d %d", size, unit, rate, crashes, n, e)
					}
				}
			}
		}
	}
}

func TestArgumentsStay(t *testing.T) { // P2
	room := append(bools(200, false), true, true)
	room[1] = true
	before := slices.Clone(room)
	if got, e := resume.Run(7, 3, 2, room[:4]); e != api.OK || !slices.Equal(got, []int{2, 3, 5, 7}) {
		t.Errorf("the spare room counts: %v %d", got, e)
	}
	if got, e := resume.Run(7, 3, 2, room[:200]); e != api.OK || len(got) != 200 {
		t.Errorf("the spare room counts: %d slots, %d", len(got), e)
	}
	if !slices.Equal(room, before) {
		t.Errorf("an argument has changed: %v", room)
	}
}

func TestResultsAreNew(t *testing.T) { // P2
	crash := []bool{false, true, false, false, true}
	for n := 1; n <= len(crash); n++ {
		if fault := samples.Shares(nil, func() ([]int, api.Errno) { return resume.Run(7, 3, 2, crash[:n]) }); fault != "" {
			t.Errorf("%d slots: %s", n, fault)
		}
	}
}
