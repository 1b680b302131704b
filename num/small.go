package num

import (
	"math"
	"math/bits"
	"slices"
)

// terms returns the form of the number, which the caller must not change.
func (x N) terms() []Term {
	if x.great != nil {
		return x.great.terms
	}
	return smallTerms(x.small)
}

// smallTerms returns the form of an int64.
func smallTerms(n int64) []Term {
	left := uint64(n)
	if n < 0 {
		left = -left
	}
	terms := make([]Term, 0, bits.Len64(left)/2+1)
	for e := int64(0); left != 0; e++ {
		if left&1 == 1 {
			// Where the next binary digit is 1, too, taking 1 off would leave a neighbour: 1 is put on.
			up := left&2 != 0
			terms = append(terms, Term{(n < 0) != up, Of(e)})
			if up {
				left++
			}
		}
		left >>= 1
	}
	slices.Reverse(terms)
	return terms
}

// asSmall returns the number of a form as an int64, if it is one.
func asSmall(terms []Term) (int64, bool) {
	if len(terms) == 0 {
		return 0, true
	}
	if first := terms[0].Exp; first.great != nil || first.small > 63 {
		return 0, false
	}
	n := int64(0)
	for _, t := range terms {
		power := int64(1) << t.Exp.small
		if t.Minus {
			power = -power
		}
		n += power
	}
	// The number is nearer to 0 than 2^64 is: if it is no int64, n has wrapped round to the other sign.
	return n, (n < 0) == terms[0].Minus
}

// addSmall returns x + y if these are int64s, and the sum is one.
func addSmall(x, y N) (N, bool) {
	n := x.small + y.small
	wrapped := (n < x.small) != (y.small < 0)
	return Of(n), x.great == nil && y.great == nil && !wrapped
}

// mulSmall returns x * y if these are int64s, and the product is one.
func mulSmall(x, y N) (N, bool) {
	if x.great != nil || y.great != nil {
		return N{}, false
	}
	if x.small == 0 || y.small == 0 {
		return N{}, true
	}
	n := x.small * y.small
	wrapped := n/y.small != x.small || x.small == math.MinInt64 && y.small == -1
	return Of(n), !wrapped
}
