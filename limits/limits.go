// Package limits: whether a number is within its bounds. Packages shape, bucket, line, turns, fair, edf, ranks, piece, window, retry, lease, catch, plan, share, resume, world and desk ask it.
package limits

// Outside reports whether n is less than low or greater than high.
func Outside(n, low, high int) bool { return n < low || n > high }
