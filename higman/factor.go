package higman

import (
	"slices"
	"unicode"

	"sandreckoner/num"
)

// factor is an element of a half.
type factor struct {
	groups half
	product
}

// read returns the factors of a word as its letters stand.
func (c *calculator) read(word string) []factor {
	var factors []factor
	behindD := false
	for _, letter := range word {
		n := num.Of(1)
		if unicode.IsUpper(letter) {
			letter, n = unicode.ToLower(letter), num.Of(-1)
		}
		isD := letter == 'd'
		if len(factors) == 0 || isD != behindD {
			factors = append(factors, factor{groups: halfWith(letter)})
		}
		c.multiply(&factors[len(factors)-1], power{letter, n})
		behindD = isD
	}
	return factors
}

// multiply puts a power of a letter of the half behind a factor.
func (c *calculator) multiply(f *factor, by power) {
	f.product = c.times(f.product, f.groups(by.letter).power(by.letter, by.n))
}

// handOver puts the factor at a place, which is the powers of the list, into the other half, where it is one factor with those beside it, of which there is at least one. The slice of factors is used up.
func (c *calculator) handOver(factors []factor, at int, list []power) []factor {
	from, to := max(at-1, 0), min(at+2, len(factors))
	one := factors[from]
	if from == at {
		one = factor{groups: factors[at+1].groups}
	}
	for _, p := range list {
		c.multiply(&one, p)
	}
	for _, behind := range factors[at+1 : to] {
		for _, x := range behind.product {
			one.product = c.times(one.product, x)
		}
	}
	return slices.Replace(factors, from, to, one)
}
