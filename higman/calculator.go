package higman

import (
	"sandreckoner/api"
	"sandreckoner/baum"
	"sandreckoner/num"
)

// calculator calculates elements and numbers one after another, and keeps the first error: as no word has one, what is calculated behind it is not asked for its errors one by one, but dropped as a whole.
type calculator struct {
	err api.Errno
}

// note keeps an error, if it is the first one.
func (c *calculator) note(err api.Errno) {
	if c.err == api.OK {
		c.err = err
	}
}

// mul returns the product of two elements of one group.
func (c *calculator) mul(x, y baum.E) baum.E {
	product, err := baum.Mul(x, y)
	c.note(err)
	return product
}

// sub returns x - y.
func (c *calculator) sub(x, y num.N) num.N {
	difference, err := x.Sub(y)
	c.note(err)
	return difference
}

// whole returns u 2^v, if it is a whole number.
func (c *calculator) whole(u, v num.N) (num.N, bool) {
	n, err := u.Shift(v)
	if err == api.ErrRange {
		return num.N{}, false
	}
	c.note(err)
	return n, true
}
