package baum

import "sandreckoner/num"

// mul returns the product of two elements.
func (c calculator) mul(x, y E) E {
	m := c.add(x.M, y.M)
	q := c.add(y.V, x.M)
	if x.U.Sign() == 0 {
		return c.plain(y.U, q, m)
	}
	if y.U.Sign() == 0 {
		return c.plain(x.U, x.V, m)
	}
	r := lesser(x.V, q)
	first := c.shift(x.U, c.sub(x.V, r))
	second := c.shift(y.U, c.sub(q, r))
	return c.plain(c.add(first, second), r, m)
}

// inv returns the inverse of an element.
func (c calculator) inv(x E) E {
	m := x.M.Neg()
	if x.U.Sign() == 0 {
		return E{M: m}
	}
	return c.plain(x.U.Neg(), c.sub(x.V, x.M), m)
}

// plain returns the plain form of an element.
func (c calculator) plain(u, v, m num.N) E {
	if u.Sign() == 0 {
		return E{M: m}
	}
	halved := c.low(u)
	return E{U: c.shift(u, halved.Neg()), V: c.add(v, halved), M: m}
}

// isUnit reports whether a plain element is the unit.
func (x E) isUnit() bool {
	return x.U.Sign() == 0 && x.M.Sign() == 0
}

// lesser returns the lesser one of two numbers.
func lesser(x, y num.N) num.N {
	if x.Cmp(y) < 0 {
		return x
	}
	return y
}
