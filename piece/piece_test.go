package piece_test

import (
	"math"
	"slices"
	"testing"

	"headway/api"
	"headway/piece"
	"headway/samples"
)

// stage returns the state of a thing of that size in pieces of that unit, with these pieces there or not.
func stage(size, unit int, have ...bool) api.Stage {
	return api.Stage{Size: size, Unit: unit, Have: have}
}

// bools returns b, n times.
func bools(n int, b bool) []bool { return slices.Repeat([]bool{b}, n) }

// same reports whether a and b are the same state.
func same(a, b api.Stage) bool {
	return a.Size == b.Size && a.Unit == b.Unit && slices.Equal(a.Have, b.Have)
}

// zero reports whether s is the zero value.
func zero(s api.Stage) bool { return same(s, api.Stage{}) }

// dealt is Sizes otherwise: the bytes are dealt one by one, and a full piece makes way for the next.
func dealt(size, unit int) []int {
	var out []int
	for b := range size {
		if b%unit == 0 {
			out = append(out, 0)
		}
		out[len(out)-1]++
	}
	return out
}

// small returns all states of a thing of up to 7 bytes in pieces of up to 8.
func small() []api.Stage {
	var out []api.Stage
	lists := samples.Lists([]bool{false, true}, 7)
	for size := range 8 {
		for unit := 1; unit <= 8; unit++ {
			n := len(dealt(size, unit))
			for _, have := range lists {
				if len(have) == n {
					out = append(out, stage(size, unit, have...))
				}
			}
		}
	}
	return out
}

// sizeCase: a size and a unit, the number of pieces, and the error that they deserve.
type sizeCase struct {
	name          string
	size, unit, n int
	want          api.Errno
}

func sizeCases() []sizeCase {
	return []sizeCase{
		{"ordinary", 7, 3, 3, api.OK},
		{"nothing at all", 0, 1, 0, api.OK},
		{"nothing at all in the greatest pieces", 0, 1000000, 0, api.OK},
		{"one byte", 1, 1, 1, api.OK},
		{"one byte in the greatest pieces", 1, 1000000, 1, api.OK},
		{"as many bytes as in a piece", 9, 9, 1, api.OK},
		{"one less than in a piece", 8, 9, 1, api.OK},
		{"one more than in a piece", 10, 9, 2, api.OK},
		{"all at the most", 1000000, 1000000, 1, api.OK},
		{"one less than a piece at the most", 999999, 1000000, 1, api.OK},
		{"200 bytes", 200, 1, 200, api.OK},
		{"199 pieces and a byte", 399, 2, 200, api.OK},
		{"200 pieces", 400, 2, 200, api.OK},
		{"200 pieces of the most", 1000000, 5000, 200, api.OK},
		{"201 bytes", 201, 1, 0, api.ErrLarge},
		{"200 pieces and a byte", 401, 2, 0, api.ErrLarge},
		{"200 pieces and a rest of the most", 1000000, 4999, 0, api.ErrLarge},
		{"as many pieces as there may be bytes", 1000000, 1, 0, api.ErrLarge},
		{"a negative size", -1, 1, 0, api.ErrArg},
		{"too many bytes by one", 1000001, 1000000, 0, api.ErrArg},
		{"too many bytes, and too many pieces", 1000001, 1, 0, api.ErrArg},
		{"the least size of all", math.MinInt, 1, 0, api.ErrArg},
		{"the greatest size of all", math.MaxInt, 1000000, 0, api.ErrArg},
		{"no unit", 7, 0, 0, api.ErrArg},
		{"no unit of nothing", 0, 0, 0, api.ErrArg},
		{"no unit, and many bytes", 1000000, 0, 0, api.ErrArg},
		{"a negative unit", 7, -1, 0, api.ErrArg},
		{"a negative unit of a negative size", -7, -3, 0, api.ErrArg},
		{"too great a unit by one", 7, 1000001, 0, api.ErrArg},
		{"too great a unit of nothing", 0, 1000001, 0, api.ErrArg},
		{"the least unit of all", 7, math.MinInt, 0, api.ErrArg},
		{"the greatest unit of all", 7, math.MaxInt, 0, api.ErrArg},
		{"the greatest of all", math.MaxInt, math.MaxInt, 0, api.ErrArg},
	}
}

// stageCase: a state, and the error that it deserves.
type stageCase struct {
	name string
	s    api.Stage
	want api.Errno
}

func stageCases() []stageCase {
	out := []stageCase{
		{"the zero value", api.Stage{}, api.ErrArg},
		{"nothing at all, with nil", stage(0, 1), api.OK},
		{"nothing at all, with an empty list", api.Stage{Unit: 9, Have: []bool{}}, api.OK},
		{"nothing at all, with spare room", api.Stage{Unit: 9, Have: make([]bool, 0, 3)}, api.OK},
		{"some there", stage(7, 3, false, true, false), api.OK},
		{"none there", stage(7, 3, false, false, false), api.OK},
		{"all there", stage(7, 3, true, true, true), api.OK},
		{"one piece", stage(1, 1000000, true), api.OK},
		{"one too few", stage(7, 3, true, true), api.ErrLen},
		{"one too many", stage(7, 3, true, true, true, false), api.ErrLen},
		{"nil", stage(7, 3), api.ErrLen},
		{"none but spare room", api.Stage{Size: 7, Unit: 3, Have: make([]bool, 0, 3)}, api.ErrLen},
		{"a piece of nothing", stage(0, 3, false), api.ErrLen},
		{"an element a byte", stage(7, 3, bools(7, true)...), api.ErrLen},
		{"one more of as many as a unit divides", stage(6, 3, true, true, true), api.ErrLen},
		{"very many", stage(7, 3, make([]bool, 5000)...), api.ErrLen},
		{"199 of 200", stage(200, 1, bools(199, true)...), api.ErrLen},
		{"201 of 200", stage(200, 1, bools(201, true)...), api.ErrLen},
	}
	for _, x := range sizeCases() {
		out = append(out, stageCase{x.name, stage(x.size, x.unit, bools(x.n, true)...), x.want})
		if x.want != api.OK {
			// The error of the sizes goes ahead of that of the length, whatever the list.
			out = append(out, stageCase{x.name + ", with elements", stage(x.size, x.unit, bools(201, false)...), x.want})
		}
	}
	return out
}

func TestSizes(t *testing.T) { // P51
	for _, x := range []struct {
		name       string
		size, unit int
		want       []int
	}{
		{"the document's", 7, 3, []int{3, 3, 1}},
		{"nothing at all", 0, 3, nil},
		{"no rest", 6, 3, []int{3, 3}},
		{"the greatest rest", 8, 3, []int{3, 3, 2}},
		{"less than a piece", 2, 3, []int{2}},
		{"just a piece", 3, 3, []int{3}},
		{"bytes", 4, 1, []int{1, 1, 1, 1}},
		{"the most in one piece", 1000000, 1000000, []int{1000000}},
		{"the most with a rest of one", 1000000, 999999, []int{999999, 1}},
		{"the most in halves", 1000000, 500000, []int{500000, 500000}},
		{"the most in 200", 1000000, 5000, samples.Same(200, 5000)},
		{"199 and a rest", 996, 5, append(samples.Same(199, 5), 1)},
	} {
		if got, e := piece.Sizes(x.size, x.unit); e != api.OK || !slices.Equal(got, x.want) {
			t.Errorf("%s: %v %d, not %v", x.name, got, e, x.want)
		}
	}
}

// TestSizesDealt: the sizes are those of bytes that are dealt one by one, and there are too many just when more than 200 pieces are dealt.
func TestSizesDealt(t *testing.T) { // P51
	for size := range 450 {
		for unit := 1; unit <= 30; unit++ {
			want, wantE := dealt(size, unit), api.OK
			if len(want) > 200 {
				want, wantE = nil, api.ErrLarge
			}
			if got, e := piece.Sizes(size, unit); e != wantE || !slices.Equal(got, want) {
				t.Fatalf("%d by %d: %v %d, not %v %d", size, unit, got, e, want, wantE)
			}
		}
	}
}

// TestNew: the sizes and the first state have one error, and with it, all else is zero.
func TestNew(t *testing.T) { // P51, P52
	for _, x := range sizeCases() {
		if got, e := piece.Sizes(x.size, x.unit); e != x.want || len(got) != x.n {
			t.Errorf("sizes: %s: %v %d, not %d", x.name, got, e, x.want)
		}
		var want api.Stage
		if x.want == api.OK {
			want = stage(x.size, x.unit, bools(x.n, false)...)
		}
		if got, e := piece.New(x.size, x.unit); e != x.want || !same(got, want) {
			t.Errorf("new: %s: %v %d, not %v %d", x.name, got, e, want, x.want)
		}
	}
}

func TestCheck(t *testing.T) { // P52
	for _, x := range stageCases() {
		if e := piece.Check(x.s); e != x.want {
			t.Errorf("%s: %d, not %d", x.name, e, x.want)
		}
	}
	for _, s := range small() {
		if e := piece.Check(s); e != api.OK {
			t.Errorf("%v: %d", s, e)
		}
	}
}

// TestErrors: a state's own error goes ahead of all others, and with it, all else is zero.
func TestErrors(t *testing.T) { // P53, P54
	for _, x := range stageCases() {
		for _, i := range []int{math.MinInt, -1, 0, 1, 2, 3, 199, 200, math.MaxInt} {
			want := x.want
			if want == api.OK && (i < 0 || i >= len(x.s.Have)) {
				want = api.ErrArg
			}
			if got, e := piece.Put(x.s, i); e != want || e != api.OK && !zero(got) {
				t.Errorf("put: %s, %d: %v %d, not %d", x.name, i, got, e, want)
			}
		}
		want := x.want
		if want == api.OK && !slices.Contains(x.s.Have, false) {
			want = api.ErrNone
		}
		if i, e := piece.Next(x.s); e != want || e != api.OK && i != 0 {
			t.Errorf("next: %s: %d %d, not %d", x.name, i, e, want)
		}
		if n, e := piece.Got(x.s); e != x.want || e != api.OK && n != 0 {
			t.Errorf("got: %s: %d %d, not %d", x.name, n, e, x.want)
		}
	}
}

func TestPut(t *testing.T) { // P53
	for _, x := range []struct {
		name string
		s    api.Stage
		i    int
		want api.Stage
		e    api.Errno
	}{
		{"the first", stage(7, 3, false, false, false), 0, stage(7, 3, true, false, false), api.OK},
		{"the last", stage(7, 3, false, false, false), 2, stage(7, 3, false, false, true), api.OK},
		{"amid others that are there", stage(7, 3, true, false, true), 1, stage(7, 3, true, true, true), api.OK},
		{"one that is there already", stage(7, 3, false, true, false), 1, stage(7, 3, false, true, false), api.OK},
		{"one of all that are there already", stage(7, 3, true, true, true), 0, stage(7, 3, true, true, true), api.OK},
		{"the last of 200", stage(200, 1, bools(200, false)...), 199, stage(200, 1, append(bools(199, false), true)...), api.OK},
		{"past the last of 200", stage(200, 1, bools(200, false)...), 200, api.Stage{}, api.ErrArg},
		{"past the last", stage(7, 3, false, false, false), 3, api.Stage{}, api.ErrArg},
		{"a byte that is no piece", stage(7, 3, false, false, false), 6, api.Stage{}, api.ErrArg},
		{"ahead of the first", stage(7, 3, false, false, false), -1, api.Stage{}, api.ErrArg},
		{"the first of nothing", stage(0, 3), 0, api.Stage{}, api.ErrArg},
		{"a state's length ahead of the index", stage(7, 3, false, false), 2, api.Stage{}, api.ErrLen},
		{"a state's length ahead of a wrong index", stage(7, 3, false, false, false, false), 4, api.Stage{}, api.ErrLen},
		{"a state's many pieces ahead of a wrong index", stage(201, 1), -1, api.Stage{}, api.ErrLarge},
	} {
		if got, e := piece.Put(x.s, x.i); e != x.e || !same(got, x.want) {
			t.Errorf("%s: %v %d, not %v %d", x.name, got, e, x.want, x.e)
		}
	}
}

// TestPutOne: of every state, just the one piece is there that was put, and those that were there before.
func TestPutOne(t *testing.T) { // P53
	for _, s := range small() {
		for i := range s.Have {
			got, e := piece.Put(s, i)
			if e != api.OK || got.Size != s.Size || got.Unit != s.Unit || len(got.Have) != len(s.Have) {
				t.Fatalf("%v, %d: %v %d", s, i, got, e)
			}
			for k, is := range got.Have {
				if is != (s.Have[k] || k == i) {
					t.Fatalf("%v, %d: %v", s, i, got)
				}
			}
		}
	}
}

func TestNext(t *testing.T) { // P54
	for _, x := range []struct {
		name string
		s    api.Stage
		want int
		e    api.Errno
	}{
		{"none is there", stage(7, 3, false, false, false), 0, api.OK},
		{"the first is there", stage(7, 3, true, false, false), 1, api.OK},
		{"the first is missing, though others are there", stage(7, 3, false, true, true), 0, api.OK},
		{"the second is missing, and a later one", stage(9, 2, true, false, true, false, true), 1, api.OK},
		{"the last is missing", stage(7, 3, true, true, false), 2, api.OK},
		{"none is missing", stage(7, 3, true, true, true), 0, api.ErrNone},
		{"nothing at all", stage(0, 3), 0, api.ErrNone},
		{"the last of 200 is missing", stage(200, 1, append(bools(199, true), false)...), 199, api.OK},
		{"none of 200 is missing", stage(200, 1, bools(200, true)...), 0, api.ErrNone},
		{"a state's length, though none is missing", stage(7, 3, true, true), 0, api.ErrLen},
		{"a state's length, though one is missing", stage(7, 3, true, true, true, false), 0, api.ErrLen},
	} {
		if got, e := piece.Next(x.s); e != x.e || got != x.want {
			t.Errorf("%s: %d %d, not %d %d", x.name, got, e, x.want, x.e)
		}
	}
}

func TestGot(t *testing.T) { // P54
	for _, x := range []struct {
		name string
		s    api.Stage
		want int
	}{
		{"none", stage(7, 3, false, false, false), 0},
		{"a whole piece", stage(7, 3, false, true, false), 3},
		{"the rest", stage(7, 3, false, false, true), 1},
		{"a whole piece and the rest", stage(7, 3, true, false, true), 4},
		{"all", stage(7, 3, true, true, true), 7},
		{"a last piece that is whole", stage(6, 3, false, true), 3},
		{"less than a piece", stage(2, 3, true), 2},
		{"nothing at all", stage(0, 3), 0},
		{"all of the most", stage(1000000, 5000, bools(200, true)...), 1000000},
		{"all but the first of the most", stage(1000000, 5000, append([]bool{false}, bools(199, true)...)...), 995000},
		{"the most in one piece", stage(1000000, 1000000, true), 1000000},
	} {
		if got, e := piece.Got(x.s); e != api.OK || got != x.want {
			t.Errorf("%s: %d %d, not %d", x.name, got, e, x.want)
		}
	}
}

// TestSmall holds the answers about every small state against those that are reckoned otherwise.
func TestSmall(t *testing.T) { // P54
	for _, s := range small() {
		sum, next, wantE := 0, 0, api.ErrNone
		for i, size := range slices.Backward(dealt(s.Size, s.Unit)) {
			if s.Have[i] {
				sum += size
			} else {
				next, wantE = i, api.OK
			}
		}
		if i, e := piece.Next(s); e != wantE || i != next {
			t.Fatalf("next: %v: %d %d, not %d %d", s, i, e, next, wantE)
		}
		if n, e := piece.Got(s); e != api.OK || n != sum {
			t.Fatalf("got: %v: %d %d, not %d", s, n, e, sum)
		}
	}
}

// TestTransfer: whoever puts the next missing piece again and again goes through all of them in order, and has all bytes at the end.
func TestTransfer(t *testing.T) { // P51, P52, P53, P54
	for _, x := range sizeCases() {
		if x.want != api.OK {
			continue
		}
		sizes, _ := piece.Sizes(x.size, x.unit)
		s, e := piece.New(x.size, x.unit)
		sum := 0
		for i, size := range sizes {
			next, nextE := piece.Next(s)
			if e != api.OK || nextE != api.OK || next != i {
				t.Fatalf("%s: %d %d %d, not %d", x.name, e, next, nextE, i)
			}
			s, e = piece.Put(s, next)
			sum += size
			if n, gotE := piece.Got(s); gotE != api.OK || n != sum {
				t.Fatalf("%s, after piece %d: %d %d, not %d", x.name, i, n, gotE, sum)
			}
		}
		if _, nextE := piece.Next(s); e != api.OK || nextE != api.ErrNone || sum != x.size {
			t.Errorf("%s: at the end: %d %d, with %d bytes", x.name, e, nextE, sum)
		}
	}
}

func TestNothingPanics(t *testing.T) { // P1
	numbers := append(samples.Numbers(), 199, 200, 201)
	for _, size := range numbers {
		for _, unit := range numbers {
			_, want := piece.Sizes(size, unit)
			fresh, e := piece.New(size, unit)
			if e != want || e == api.OK && piece.Check(fresh) != api.OK || e != api.OK && !zero(fresh) {
				t.Fatalf("new: %d by %d: %v %d, not %d", size, unit, fresh, e, want)
			}
			for _, have := range [][]bool{nil, {}, {true}, {false, true}, fresh.Have, make([]bool, 201)} {
				s := stage(size, unit, have...)
				want := piece.Check(s)
				for _, i := range numbers {
					if got, e := piece.Put(s, i); want != api.OK && e != want || e != api.OK && !zero(got) {
						t.Fatalf("put: %v, %d: %v %d", s, i, got, e)
					}
				}
				if i, e := piece.Next(s); e != want && (want != api.OK || e != api.ErrNone) || e != api.OK && i != 0 {
					t.Fatalf("next: %v: %d %d, not %d", s, i, e, want)
				}
				if n, e := piece.Got(s); e != want || e != api.OK && n != 0 {
					t.Fatalf("got: %v: %d %d, not %d", s, n, e, want)
				}
			}
		}
	}
}

func TestArgumentsStay(t *testing.T) { // P2
	room := []bool{false, true, false, true, true}
	before := slices.Clone(room)
	// Piece 1 is there already: even then, the result is new memory.
	for i, want := range [][]bool{{true, true, false}, {false, true, false}, {false, true, true}} {
		s := stage(7, 3, room[:3]...)
		got, e := piece.Put(s, i)
		other, _ := piece.Put(s, i)
		if e != api.OK || !same(got, stage(7, 3, want...)) {
			t.Errorf("the spare room counts: %v %d", got, e)
		}
		flip(got.Have)
		if !slices.Equal(other.Have, want) {
			t.Errorf("results share memory: %v", other)
		}
		if !slices.Equal(room, before) {
			t.Fatalf("an argument has changed: %v", room)
		}
	}
	s := stage(7, 3, room[:3]...)
	if e := piece.Check(s); e != api.OK {
		t.Errorf("the spare room counts: %d", e)
	}
	if i, e := piece.Next(s); i != 0 || e != api.OK {
		t.Errorf("the spare room counts: %d %d", i, e)
	}
	if n, e := piece.Got(s); n != 3 || e != api.OK {
		t.Errorf("the spare room counts: %d %d", n, e)
	}
	if !slices.Equal(room, before) {
		t.Errorf("an argument has changed: %v", room)
	}
}

func TestResultsAreNew(t *testing.T) { // P2
	if fault := samples.Shares(nil, func() ([]int, api.Errno) { return piece.Sizes(7, 3) }); fault != "" {
		t.Error(fault)
	}
	one, _ := piece.New(7, 3)
	two, _ := piece.New(7, 3)
	flip(one.Have)
	if !same(two, stage(7, 3, false, false, false)) {
		t.Errorf("results share memory: %v", two)
	}
}

// flip turns all of a over, with its spare room.
func flip(a []bool) {
	a = a[:cap(a)]
	for i := range a {
		a[i] = !a[i]
	}
}
