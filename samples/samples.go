// Package samples: arguments, right and wrong, that the tests of several packages ask with. No package of the program needs it.
package samples

import (
	"iter"
	"math"
	"slices"

	"headway/api"
	"headway/curve"
)

// Values returns n values, each made out of its time.
func Values(n int, at func(t int) int) []int {
	out := make([]int, n)
	for t := range out {
		out[t] = at(t)
	}
	return out
}

// Slope returns start, start+step and so on, n values.
func Slope(n, start, step int) []int {
	return Values(n, func(t int) int { return start + t*step })
}

// Lists returns all the lists of up to most items, each any of those given.
func Lists[T any](items []T, most int) [][]T {
	out := [][]T{nil}
	last := out
	for range most {
		var next [][]T
		for _, l := range last {
			for _, item := range items {
				next = append(next, append(slices.Clone(l), item))
			}
		}
		out = append(out, next...)
		last = next
	}
	return out
}

// Small returns all the curves of 1 to 4 values from 0 to 3.
func Small() [][]int {
	var out [][]int
	last := [][]int{nil}
	for range 4 {
		var next [][]int
		for _, f := range last {
			next = append(next, longer(f)...)
		}
		out = append(out, next...)
		last = next
	}
	return out
}

// longer returns the curves that have one value more than f, of at most 3.
func longer(f []int) [][]int {
	low := 0
	if len(f) > 0 {
		low = f[len(f)-1]
	}
	var out [][]int
	for v := low; v <= 3; v++ {
		out = append(out, append(slices.Clone(f), v))
	}
	return out
}

// Steps returns all the curves of 6 values that start at 0 or 2 and rise by 0, 1 or 4 each time.
func Steps() [][]int {
	out := [][]int{{0}, {2}}
	for range 5 {
		var next [][]int
		for _, f := range out {
			for _, step := range []int{0, 1, 4} {
				next = append(next, append(slices.Clone(f), f[len(f)-1]+step))
			}
		}
		out = next
	}
	return out
}

// Long returns curves of 61 values, of several forms; no two of them add up to more than a curve may have.
func Long() [][]int {
	return [][]int{
		Slope(61, 0, 0), Slope(61, 0, 8000), Slope(61, 9, 5), Slope(61, 300000, 1), Slope(61, 500000, 0),
		Values(61, func(t int) int { return t * t }),
		Values(61, func(t int) int { return t / 7 * 100 }),
		Values(61, func(t int) int { return 3600 - (60-t)*(60-t) }),
		Values(61, func(t int) int { return max(0, t-20) * 11 }),
		Values(61, func(t int) int { return t*12 + t*t%11 }),
	}
}

// Pairs goes through all pairs of one length among the small, the stepwise and the long curves.
func Pairs() iter.Seq2[[]int, []int] {
	return func(yield func(f, g []int) bool) {
		for _, curves := range [][][]int{Small(), Steps(), Long()} {
			for _, f := range curves {
				for _, g := range curves {
					if len(f) == len(g) && !yield(f, g) {
						return
					}
				}
			}
		}
	}
}

// Splits returns all the lists of times, none of them 0, that add up to t.
func Splits(t int) [][]int {
	if t == 0 {
		return [][]int{nil}
	}
	var out [][]int
	for first := 1; first <= t; first++ {
		for _, rest := range Splits(t - first) {
			out = append(out, append([]int{first}, rest...))
		}
	}
	return out
}

// Strange returns lists of all kinds, curves or not.
func Strange() [][]int {
	return [][]int{
		nil, {}, {0}, {api.MaxVal}, {api.MaxVal + 1}, {-1}, {math.MinInt}, {math.MaxInt},
		{0, 3, 3}, {0, 3, 2}, {5, 5, 5}, {0, math.MaxInt}, {0, math.MinInt}, {math.MaxInt, math.MinInt},
		Slope(60, 0, 1), Slope(61, 0, 1), Slope(61, 0, 16000), Slope(61, api.MaxVal, 0), Slope(62, 0, 1),
		make([]int, 0, 9), make([]int, 5000),
	}
}

// Numbers returns numbers of all kinds.
func Numbers() []int {
	return []int{math.MinInt, -1, 0, 1, 2, 3, 59, 60, 61, 62, api.MaxRate, api.MaxRate + 1, api.MaxVal, api.MaxVal + 1, math.MaxInt}
}

// WrongCurve: a list that is not a curve, and the error that it deserves.
type WrongCurve struct {
	Name string
	F    []int
	Want api.Errno
}

// WrongCurves returns the errors that any function of a curve has, and their order.
func WrongCurves() []WrongCurve {
	top := api.MaxVal
	return []WrongCurve{
		{"nil", nil, api.ErrArg},
		{"empty", []int{}, api.ErrArg},
		{"empty with spare room", make([]int, 0, 70), api.ErrArg},
		{"62 values", Slope(62, 0, 1), api.ErrLarge},
		{"62 values ahead of their signs and order", Slope(62, 0, -1), api.ErrLarge},
		{"negative", []int{-1}, api.ErrArg},
		{"most negative", []int{0, math.MinInt}, api.ErrArg},
		{"too great by one", []int{top + 1}, api.ErrLarge},
		{"too great at the last time", []int{0, 1, math.MaxInt}, api.ErrLarge},
		{"a fall", []int{0, 3, 2}, api.ErrForm},
		{"negative, which is a fall too", []int{5, -1}, api.ErrArg},
		{"a fall ahead of too great", []int{2, 1, top + 1}, api.ErrForm},
		{"too great ahead of a fall", []int{0, top + 2, top + 1}, api.ErrLarge},
	}
}

// WrongPair: two lists that are not two curves of one length, and the error that they deserve.
type WrongPair struct {
	Name string
	F, G []int
	Want api.Errno
}

// WrongPairs returns the errors that any function of two curves has, and their order.
func WrongPairs() []WrongPair {
	return []WrongPair{
		{"no first", nil, []int{0}, api.ErrArg},
		{"no second", []int{0}, nil, api.ErrArg},
		{"neither", nil, nil, api.ErrArg},
		{"the first falls", []int{1, 0}, []int{0, 0}, api.ErrForm},
		{"the second falls", []int{0, 0}, []int{1, 0}, api.ErrForm},
		{"the first's error ahead of the second's", []int{1, 0}, []int{-1}, api.ErrForm},
		{"the first's error ahead of the second's, turned", []int{-1}, []int{1, 0}, api.ErrArg},
		{"the first's error ahead of the lengths", []int{-1}, []int{0, 1}, api.ErrArg},
		{"the second's error ahead of the lengths", []int{0}, []int{1, 0}, api.ErrForm},
		{"the first is too long", Slope(62, 0, 1), []int{0}, api.ErrLarge},
		{"the second is too long", []int{0}, Slope(62, 0, 1), api.ErrLarge},
		{"a value of the first is too great", []int{api.MaxVal + 1}, []int{0}, api.ErrLarge},
		{"a value of the second is too great", []int{0}, []int{api.MaxVal + 1}, api.ErrLarge},
		{"the first is shorter", []int{0}, []int{0, 1}, api.ErrLen},
		{"the second is shorter", []int{0, 1}, []int{0}, api.ErrLen},
		{"lengths ahead of the size of the result", []int{api.MaxVal}, []int{api.MaxVal, api.MaxVal}, api.ErrLen},
	}
}

// Sound reports whether got and e may be the answer of a function that takes f first and returns a curve: f's own error goes ahead of others, and there is a curve just when there is no error.
func Sound(f, got []int, e api.Errno) bool {
	if first := curve.Check(f); first != api.OK && e != first {
		return false
	}
	if e != api.OK {
		return len(got) == 0
	}
	return curve.Check(got) == api.OK
}

// PairShares tells what Shares finds in a function of two curves.
func PairShares(call func(f, g []int) ([]int, api.Errno)) string {
	f, g := []int{0, 5, 6, 9, 77, 78}, []int{1, 2, 7, 8, 87, 88, 89}
	high, low := []int{9, 9, 9, 99, 77, 78}, []int{0, 0, 0, 0, 97, 98}
	for _, rooms := range [][][]int{{f, g}, {g, f}, {f, f}, {high, low}, {low, high}, {low, low}} {
		fault := Shares(rooms, func() ([]int, api.Errno) { return call(rooms[0][:4], rooms[1][:4]) })
		if fault != "" {
			return fault
		}
	}
	return ""
}

// Shares calls twice, overwrites all of one result, and tells what has changed by it: an argument (rooms, each with its spare capacity), the other result, or nothing ("").
func Shares(rooms [][]int, call func() ([]int, api.Errno)) string {
	var before [][]int
	for _, r := range rooms {
		before = append(before, slices.Clone(r))
	}
	got, _ := call()
	other, _ := call()
	want := slices.Clone(other)
	spoil(got)
	for i, r := range rooms {
		if !slices.Equal(r, before[i]) {
			return "an argument has changed"
		}
	}
	if len(want) == 0 {
		return "there is no result"
	}
	if !slices.Equal(other, want) {
		return "results share memory"
	}
	return ""
}

// Apart overwrites all of one result of a call, and tells whether the other one has changed by it; then the other way round ("" if neither has).
func Apart(call func() ([]int, []int, api.Errno)) string {
	one, two, _ := call()
	wantOne, wantTwo := slices.Clone(one), slices.Clone(two)
	spoil(two)
	if !slices.Equal(one, wantOne) {
		return "the second result reaches the first"
	}
	one, two, _ = call()
	spoil(one)
	if !slices.Equal(two, wantTwo) {
		return "the first result reaches the second"
	}
	return ""
}

// spoil overwrites all of a, with its spare room.
func spoil(a []int) {
	a = a[:cap(a)]
	for i := range a {
		a[i] = -5
	}
}
