package rest

import (
	"slices"
	"sort"

	"sandreckoner/api"
	"sandreckoner/num"
)

// split returns the terms of x that 2^place divides, and those that lie below it.
func split(x, place num.N) (above, below []num.Term) {
	terms := x.Terms()
	count := sort.Search(len(terms), func(i int) bool {
		return terms[i].Exp.Cmp(place) < 0
	})
	return terms[:count], terms[count:]
}

// negative reports whether the sum of some terms of a form is negative: the first one outweighs all others.
func negative(terms []num.Term) bool {
	return len(terms) > 0 && terms[0].Minus
}

// shifted returns the sum of some terms of a number, divided by 2^y, which divides each of them.
func shifted(terms []num.Term, y num.N) (num.N, api.Errno) {
	sum, err := num.Sum(terms)
	if err != api.OK {
		return num.N{}, err
	}
	return sum.Shift(y.Neg())
}

// near reports whether the distance of an exponent from y is an int64.
func near(exp, y num.N) bool {
	distance, err := exp.Sub(y)
	_, ok := distance.Int()
	// What is not allowed is no int64.
	return err == api.OK && ok
}

// shiftedLessOne returns the sum of some terms of a number, divided by 2^y, which divides each of them, less 1.
func shiftedLessOne(terms []num.Term, y num.N) (num.N, api.Errno) {
	// The quotient need not be allowed until 1 is taken away, which can change many of its parts, and rid it of some: it changes an exponent, then the next but one, and so on, as long as there are such terms. The far ones are out of this reach, so that they have to be allowed as they are. The near ones are always allowed: their exponents are int64s, of which all other parts are less than 64.
	count := sort.Search(len(terms), func(i int) bool {
		return near(terms[i].Exp, y)
	})
	far, err := shifted(terms[:count], y)
	if err != api.OK {
		return num.N{}, err
	}
	beside, err := shifted(terms[count:], y)
	if err != api.OK {
		return num.N{}, err
	}
	one := num.Term{Minus: true}
	return num.Sum(slices.Concat(far.Terms(), beside.Terms(), []num.Term{one}))
}

// span is how far the last digit of what leading returns lies from the first exponent.
const span = 62

// leading returns |x| if x is an int64, otherwise the first binary digits of |x|, which are more than maxLead.
func leading(x num.N) uint64 {
	if n, ok := x.Int(); ok {
		if n < 0 {
			return -uint64(n)
		}
		return uint64(n)
	}
	terms := x.Terms()
	first := terms[0]
	digits := uint64(0)
	for _, t := range terms {
		distance, err := first.Exp.Sub(t.Exp)
		n, ok := distance.Int()
		same := t.Minus == first.Minus
		if err != api.OK || !ok || n > span {
			// Of what lies below, only the sign counts: by it, rounding down takes 1 away or not.
			if !same {
				digits--
			}
			break
		}
		if same {
			digits += 1 << (span - n)
		} else {
			digits -= 1 << (span - n)
		}
	}
	return digits
}
