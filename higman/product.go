package higman

import (
	"bytes"
	"slices"

	"sandreckoner/api"
	"sandreckoner/num"
)

// product is a reduced product of elements of a half; without elements it is the unit.
type product []element

// power is a power of a letter.
type power struct {
	letter rune
	n      num.N
}

// times returns the product of p and x. It writes over nothing of p, but two products that are made of the same p may write over each other.
func (c *calculator) times(p product, x element) product {
	for len(p) > 0 {
		last := len(p) - 1
		one, ok := c.together(p[last], x)
		if !ok {
			break
		}
		p, x = p[:last:last], one
	}
	return append(p, x)
}

// powers returns the powers of free letters that a product is, if it lies in the free group.
func (c *calculator) powers(p product) ([]power, bool) {
	var list []power
	k := num.Of(0)
	for _, x := range p {
		n, next, ok := c.pass(k, x)
		if !ok {
			return nil, false
		}
		if n.Sign() != 0 {
			list = append(list, power{x.in.free(), n})
		}
		k = next
	}
	return list, k.Sign() == 0
}

// told returns powers in the way in which traces tell them.
func told(list []power) []api.Power {
	var out []api.Power
	for _, p := range list {
		out = append(out, api.Power{Letter: byte(p.letter), N: p.n.Bytes()})
	}
	return out
}

// same reports whether two lists tell the same powers.
func same(x, y []api.Power) bool {
	return slices.EqualFunc(x, y, func(p, q api.Power) bool {
		return p.Letter == q.Letter && bytes.Equal(p.N, q.N)
	})
}
