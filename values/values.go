// Package values: curves that are made out of their value at each time. Packages point and shape are made of it.
package values

import "headway/api"

// Curve returns the n values of at, from time 0 upward (at may keep what it has seen), or ErrLarge if one is too great for a curve. That none is negative or less than the one before it is the caller's care.
func Curve(n int, at func(t int) int) ([]int, api.Errno) {
	out := make([]int, n)
	for t := range out {
		v := at(t)
		if v > api.MaxVal {
			return nil, api.ErrLarge
		}
		out[t] = v
	}
	return out, api.OK
}
