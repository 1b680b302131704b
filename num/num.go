// Package num is layer 1: whole numbers, each in its one form, a sum of powers of two with signs whose exponents are numbers again. See shared/doc/01-num.md.
package num

import (
	"slices"

	"sandreckoner/api"
)

// maxSum is how many terms Sum adds up.
const maxSum = 1000

// N is a whole number; the zero value is 0.
//
// A number that is an int64 is kept as one, since nearly all exponents are so small, and any other one as its form. So each number is kept in one way only.
type N struct {
	small int64
	great *form // nil if the number is an int64
}

// form is what a number that is no int64 consists of: its terms, the greatest exponent first. It is never changed. No two forms that hang on one number are alike, so that == tells its parts from each other.
type form struct {
	terms []Term
}

// Term is a power of two with a sign.
type Term struct {
	Minus bool
	Exp   N
}

// Of returns a number.
func Of(n int64) N {
	return N{small: n}
}

// Int returns the number as an int64, if it is one.
func (x N) Int() (int64, bool) {
	return x.small, x.great == nil
}

// Sign returns -1, 0 or 1.
func (x N) Sign() int {
	switch {
	case x.great != nil:
		return x.great.terms[0].sign()
	case x.small < 0:
		return -1
	case x.small > 0:
		return 1
	}
	return 0
}

// sign returns 1 or -1.
func (t Term) sign() int {
	if t.Minus {
		return -1
	}
	return 1
}

// Cmp returns -1, 0 or 1 as x is less than y, the same, or greater.
func (x N) Cmp(y N) int {
	return new(store).compare(x, y)
}

// Neg returns -x.
func (x N) Neg() N {
	terms := slices.Clone(x.terms())
	for i := range terms {
		terms[i].Minus = !terms[i].Minus
	}
	return new(store).keep(terms)
}

// Add returns x + y.
func (x N) Add(y N) (N, api.Errno) {
	var s store
	return limited(s.add(s.take(x), s.take(y)))
}

// Sub returns x - y.
func (x N) Sub(y N) (N, api.Errno) {
	return x.Add(y.Neg())
}

// Shift returns x * 2^y.
func (x N) Shift(y N) (N, api.Errno) {
	var s store
	by := s.take(y)
	terms := slices.Clone(s.take(x).terms())
	for i := range terms {
		terms[i].Exp = s.add(terms[i].Exp, by)
		if terms[i].Exp.Sign() < 0 {
			return N{}, api.ErrRange
		}
	}
	return limited(s.keep(terms))
}

// Mul returns x * y.
func (x N) Mul(y N) (N, api.Errno) {
	if product, ok := mulSmall(x, y); ok {
		return product, api.OK
	}
	if len(x.terms())*len(y.terms()) > api.MaxProduct {
		return N{}, api.ErrFull
	}
	var s store
	var products []Term
	rows, columns := s.take(x).terms(), s.take(y).terms()
	for _, t := range rows {
		for _, u := range columns {
			products = append(products, Term{t.Minus != u.Minus, s.add(t.Exp, u.Exp)})
		}
	}
	return limited(s.sum(products))
}

// Sum returns the sum of some terms.
func Sum(terms []Term) (N, api.Errno) {
	for _, t := range terms {
		if t.Exp.Sign() < 0 {
			return N{}, api.ErrArg
		}
	}
	if len(terms) > maxSum {
		return N{}, api.ErrFull
	}
	var s store
	taken := slices.Clone(terms)
	for i := range taken {
		taken[i].Exp = s.take(taken[i].Exp)
	}
	return limited(s.sum(taken))
}

// Terms returns the terms, the greatest one first.
func (x N) Terms() []Term {
	return slices.Clone(x.terms())
}
