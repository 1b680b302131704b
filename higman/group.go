package higman

import (
	"sandreckoner/baum"
	"sandreckoner/num"
)

// group is the group of two letters with p q P = q q: p takes z to 2 z, and q takes it to z + 1. One of the letters is free, a or c; the other one is shared, b or d: its powers lie in the other group of the half, too.
type group struct {
	p, q rune
}

// element is an element of a group.
type element struct {
	in group
	baum.E
}

// half tells in which group of a half a letter lies: the first one, if it lies in both.
type half func(letter rune) group

// halfOf returns the half of three letters, of which the one in the middle is shared.
func halfOf(first, shared, last rune) half {
	return func(letter rune) group {
		if letter == last {
			return group{shared, last}
		}
		return group{first, shared}
	}
}

// halfWith returns the half as an element of which a letter is read; a and c, which are of both halves, are read with b.
func halfWith(letter rune) half {
	if letter == 'd' {
		return halfOf('c', 'd', 'a')
	}
	return halfOf('a', 'b', 'c')
}

// isFirst reports whether the group is the first one of its half.
func (g group) isFirst() bool {
	return g.p == 'a' || g.p == 'c'
}

// free returns the letter that is free.
func (g group) free() rune {
	if g.isFirst() {
		return g.p
	}
	return g.q
}

// shared returns the letter that is shared.
func (g group) shared() rune {
	if g.isFirst() {
		return g.q
	}
	return g.p
}

// power returns a power of a letter of the group.
func (g group) power(letter rune, n num.N) element {
	if letter == g.p {
		return element{g, baum.E{M: n}}
	}
	return element{g, baum.E{U: n}}
}

// sharedPower returns k, if x is the power k of the shared letter.
func (c *calculator) sharedPower(x element) (num.N, bool) {
	if !x.in.isFirst() {
		return x.M, x.U.Sign() == 0
	}
	if x.M.Sign() != 0 {
		return num.N{}, false
	}
	return c.whole(x.U, x.V)
}

// together returns the product of two elements of a half as one element, if they lie in one group.
func (c *calculator) together(x, y element) (element, bool) {
	if x.in != y.in {
		if k, ok := c.sharedPower(y); ok {
			y = x.in.power(x.in.shared(), k)
		} else if k, ok := c.sharedPower(x); ok {
			x = y.in.power(y.in.shared(), k)
		} else {
			return element{}, false
		}
	}
	return element{x.in, c.mul(x.E, y.E)}, true
}

// pass takes a power of the shared letter from ahead of an element to behind it: it returns n and next, if there are such, for which the power k and then x is the same as the power n of the free letter and then the power next of the shared one.
func (c *calculator) pass(k num.N, x element) (n, next num.N, ok bool) {
	y := c.mul(x.in.power(x.in.shared(), k).E, x.E)
	if x.in.isFirst() {
		next, ok = c.whole(y.U, c.sub(y.V, y.M))
		return y.M, next, ok
	}
	n, ok = c.whole(y.U, y.V)
	return n, y.M, ok
}
