package baum

import (
	"slices"

	"sandreckoner/api"
)

// This file lets the tests reduce products that no word is, since the numbers of words are far from the limits.

// TraceProduct is Trace of letters b and B, with plain elements ahead of each, and behind the last one.
func TraceProduct(outer string, inner []E) (steps []api.Pinch, left int, end E, err api.Errno) {
	p := product{outer: []byte(outer), inner: slices.Clone(inner)}
	r, err := attempt(func(c calculator) remains { return c.reduce(p) })
	return r.steps, r.left, r.end, err
}

// CheckProduct is Check of letters b and B, with plain elements ahead of each, and behind the last one.
func CheckProduct(outer string, inner []E, steps []api.Pinch) (left int, end E, err api.Errno) {
	p := product{outer: []byte(outer), inner: slices.Clone(inner)}
	r, err := attempt(func(c calculator) remains { return c.follow(p, steps) })
	return r.left, r.end, err
}

// Attempt calculates what it is given.
func Attempt(calculate func() int) (int, api.Errno) {
	return attempt(func(calculator) int { return calculate() })
}
