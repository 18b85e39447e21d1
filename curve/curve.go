// Package curve: what there is by each time: see doc/01-curve.md.
package curve

import "headway/api"

// Check returns what is wrong with f as a curve, or OK.
func Check(f []int) api.Errno {
	if len(f) == 0 {
		return api.ErrArg
	}
	if len(f) > api.MaxTime+1 {
		return api.ErrLarge
	}
	before := 0
	for _, v := range f {
		if e := checkValue(v, before); e != api.OK {
			return e
		}
		before = v
	}
	return api.OK
}

// checkValue asks for the sign and the size ahead of the order, as a value may be wrong in several ways.
func checkValue(v, before int) api.Errno {
	switch {
	case v < 0:
		return api.ErrArg
	case v > api.MaxVal:
		return api.ErrLarge
	case v < before:
		return api.ErrForm
	}
	return api.OK
}

// Le reports whether f is at no time above g.
func Le(f, g []int) (bool, api.Errno) {
	if e := checkTwo(f, g); e != api.OK {
		return false, e
	}
	for t := range f {
		if f[t] > g[t] {
			return false, api.OK
		}
	}
	return true, api.OK
}

func checkTwo(f, g []int) api.Errno {
	if e := Check(f); e != api.OK {
		return e
	}
	if e := Check(g); e != api.OK {
		return e
	}
	if len(f) != len(g) {
		return api.ErrLen
	}
	return api.OK
}

// Cut returns f up to time h.
func Cut(f []int, h int) ([]int, api.Errno) {
	if e := Check(f); e != api.OK {
		return nil, e
	}
	if h < 0 || h >= len(f) {
		return nil, api.ErrArg
	}
	// A piece of f itself would share f's memory.
	out := make([]int, h+1)
	copy(out, f)
	return out, api.OK
}
