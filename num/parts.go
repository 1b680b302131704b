package num

import "sandreckoner/api"

// parts returns the parts of a number, each once, the exponents of its terms ahead of it, and so the number itself last; and its height.
func (x N) parts() ([]N, int) {
	var parts []N
	heights := map[N]int{}
	var walk func(x N) int
	walk = func(x N) int {
		height, seen := heights[x]
		if seen {
			return height
		}
		for _, t := range x.terms() {
			height = max(height, walk(t.Exp)+1)
		}
		heights[x] = height
		parts = append(parts, x)
		return height
	}
	height := walk(x)
	return parts, height
}

// Weight returns how many different parts the number has.
func (x N) Weight() int {
	parts, _ := x.parts()
	return len(parts)
}

// Height returns the height.
func (x N) Height() int {
	_, height := x.parts()
	return height
}

// limited returns the number, or ErrFull if it is not allowed.
func limited(x N) (N, api.Errno) {
	if !x.allowed() {
		return N{}, api.ErrFull
	}
	return x, api.OK
}

// allowed reports whether the number is within the limits.
func (x N) allowed() bool {
	if x.great == nil {
		return true
	}
	parts, height := x.parts()
	if len(parts) > api.MaxWeight || height > api.MaxHeight {
		return false
	}
	for _, part := range parts {
		if len(part.terms()) > api.MaxTerms {
			return false
		}
	}
	return true
}
