// Package point: curves, time by time: see doc/02-point.md.
package point

import (
	"headway/api"
	"headway/curve"
	"headway/values"
)

// Min returns the lesser of f and g at each time.
func Min(f, g []int) ([]int, api.Errno) {
	return pairwise(f, g, func(a, b int) int { return min(a, b) })
}

// Max returns the greater of f and g at each time.
func Max(f, g []int) ([]int, api.Errno) {
	return pairwise(f, g, func(a, b int) int { return max(a, b) })
}

// Sum returns f and g together at each time.
func Sum(f, g []int) ([]int, api.Errno) {
	return pairwise(f, g, func(a, b int) int { return a + b })
}

// Less returns by how much f has been above g, at the most, by each time.
func Less(f, g []int) ([]int, api.Errno) {
	most := 0
	return pairwise(f, g, func(a, b int) int {
		most = max(most, a-b)
		return most
	})
}

// Late returns f, d times later.
func Late(f []int, d int) ([]int, api.Errno) {
	if e := curve.Check(f); e != api.OK {
		return nil, e
	}
	if d < 0 {
		return nil, api.ErrArg
	}
	return values.Curve(len(f), func(t int) int {
		if t < d {
			return 0
		}
		return f[t-d]
	})
}

// Up returns f with n more at each time.
func Up(f []int, n int) ([]int, api.Errno) {
	if e := curve.Check(f); e != api.OK {
		return nil, e
	}
	if n < 0 || n > api.MaxVal {
		return nil, api.ErrArg
	}
	return values.Curve(len(f), func(t int) int { return f[t] + n })
}

// pairwise calls op with the values of f and g at each time. The times go upward: an op may keep what it has seen.
func pairwise(f, g []int, op func(a, b int) int) ([]int, api.Errno) {
	// The errors of Le are those of any two curves; its answer is of no use here.
	if _, e := curve.Le(f, g); e != api.OK {
		return nil, e
	}
	return values.Curve(len(f), func(t int) int { return op(f[t], g[t]) })
}
