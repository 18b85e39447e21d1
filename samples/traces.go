package samples

import (
	"math"

	"headway/api"
)

// TraceCase: a list of amounts, and the error that it deserves.
type TraceCase struct {
	Name string
	A    []int
	Want api.Errno
}

// Same returns n, count times.
func Same(count, n int) []int { return Slope(count, n, 0) }

// traceWith returns a trace of 60 ones, the one of slot i+1 replaced by n.
func traceWith(i, n int) []int {
	a := Same(60, 1)
	a[i] = n
	return a
}

// TraceCases returns traces at the edges of what is right, and the errors that any function of a trace has, with their order.
func TraceCases() []TraceCase {
	return []TraceCase{
		{"nil", nil, api.OK},
		{"empty", []int{}, api.OK},
		{"empty with spare room", make([]int, 0, 70), api.OK},
		{"the document's", []int{2, 0, 3}, api.OK},
		{"nothing comes", []int{0}, api.OK},
		{"the most in a slot", []int{10000}, api.OK},
		{"one more than the most", []int{10001}, api.ErrArg},
		{"a negative number", []int{-1}, api.ErrArg},
		{"the least int", []int{0, math.MinInt}, api.ErrArg},
		{"the greatest int", []int{math.MaxInt, 0}, api.ErrArg},
		{"as much as a curve may have", []int{api.MaxVal}, api.ErrArg},
		{"60 slots", Same(60, 10000), api.OK},
		{"60 empty slots", Same(60, 0), api.OK},
		{"61 slots", Same(61, 0), api.ErrLarge},
		{"61 slots ahead of a negative number", Same(61, -1), api.ErrLarge},
		{"61 slots ahead of a number that is too great", Same(61, 10001), api.ErrLarge},
		{"very many slots", make([]int, 5000), api.ErrLarge},
		{"too great in the first of 60", traceWith(0, 10001), api.ErrArg},
		{"too great in the last of 60", traceWith(59, 10001), api.ErrArg},
		{"negative in the last of 60", traceWith(59, -1), api.ErrArg},
		{"too great within", []int{1, 10001, 1}, api.ErrArg},
	}
}

// Traces returns all the traces of up to 5 slots with 0, 1 or 4 each, and some longer ones.
func Traces() [][]int {
	return append(Lists([]int{0, 1, 4}, 5), Same(60, 0), Same(60, 10000), Same(59, 9999), traceWith(0, 10000), traceWith(59, 0), Slope(60, 7, 11))
}
