// Package parts: what curves give together when each takes a part of the time, at the least or at the most. Packages conv, closure and dual are made of it.
package parts

import "headway/api"

// Two returns, for each time, the best of f over a first part of it and g over the rest; better picks one of two sums. The curves are of one length, and the sums have no limit.
func Two(f, g []int, better func(a, b int) int) []int {
	out := make([]int, len(f))
	for t := range out {
		out[t] = best(f, g, t, better)
	}
	return out
}

// Any returns, for each time, the best of f over any number of parts of it, none of them 0 long; better picks one of two sums, which have no limit.
func Any(f []int, better func(a, b int) int) []int {
	out := make([]int, len(f))
	for t := 1; t < len(f); t++ {
		// A first part is at least 1 long, so that f counts from time 1 on, and the rest is done already.
		out[t] = best(f[1:], out, t-1, better)
	}
	return out
}

// best returns the best of f(s) + g(t-s), for all s from 0 to t.
func best(f, g []int, t int, better func(a, b int) int) int {
	out := f[0] + g[t]
	for s := 1; s <= t; s++ {
		out = better(out, f[s]+g[t-s])
	}
	return out
}

// Limit refuses what is too great for a curve; f has values, and never falls.
func Limit(f []int) ([]int, api.Errno) {
	// No value is greater than the last.
	if f[len(f)-1] > api.MaxVal {
		return nil, api.ErrLarge
	}
	return f, api.OK
}
