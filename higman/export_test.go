package higman

import (
	"sandreckoner/api"
	"sandreckoner/num"
)

// This file lets the tests reduce products that no word is, since the numbers of words are far from the limits.

// Factor is a product of powers of letters of one half.
type Factor struct {
	Letters   string
	Exponents []num.N
}

// made returns the factors of products of powers.
func (c *calculator) made(list []Factor) []factor {
	var factors []factor
	for _, f := range list {
		one := factor{groups: halfWith(rune(f.Letters[0]))}
		for i, letter := range f.Letters {
			c.multiply(&one, power{letter, f.Exponents[i]})
		}
		factors = append(factors, one)
	}
	return factors
}

// TraceFactors is Trace of products that lie in turns in the halves.
func TraceFactors(list []Factor) (steps []api.Handing, left int, end []api.Power, err api.Errno) {
	var c calculator
	r, err := c.reduce(c.made(list))
	return r.steps, r.left, r.end, err
}

// CheckFactors is Check of products that lie in turns in the halves.
func CheckFactors(list []Factor, steps []api.Handing) (left int, end []api.Power, err api.Errno) {
	var c calculator
	r, err := c.follow(c.made(list), steps)
	return r.left, r.end, err
}

// PowersAside returns the powers that a word of one half is, when a further letter has been put behind what is the same product.
func PowersAside(word string, letter rune) []api.Power {
	var c calculator
	f := c.read(word)[0]
	longer := f
	c.multiply(&longer, power{letter, num.Of(1)})
	list, _ := c.powers(f.product)
	return told(list)
}
