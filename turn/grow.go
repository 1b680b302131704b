package turn

import (
	"slices"

	"sandreckoner/api"
	"sandreckoner/num"
)

// added returns x + c * times.
func added(x, c, times num.N) (num.N, api.Errno) {
	all, err := c.Mul(times)
	if err != api.OK {
		return num.N{}, err
	}
	return x.Add(all)
}

// doubled returns (x + c) * 2^times - c.
func doubled(x, c, times num.N) (num.N, api.Errno) {
	first, err := shifted(x.Terms(), times)
	if err != api.OK {
		return num.N{}, err
	}
	second, err := shifted(c.Terms(), times)
	if err != api.OK {
		return num.N{}, err
	}
	// What lies in between need not be allowed, so that all terms, of which there are few enough, are summed up at once.
	return num.Sum(slices.Concat(first, second, c.Neg().Terms()))
}

// shifted returns some terms of a number with times added to their exponents, or ErrFull if one of these is not allowed.
func shifted(terms []num.Term, times num.N) ([]num.Term, api.Errno) {
	if len(terms) == 1 {
		exp, err := terms[0].Exp.Add(times)
		return []num.Term{{Minus: terms[0].Minus, Exp: exp}}, err
	}
	if all, ok := shiftedSum(terms, times); ok {
		return all.Terms(), api.OK
	}
	// Together the terms can have too many parts even where each exponent is allowed.
	middle := len(terms) / 2
	first, err := shifted(terms[:middle], times)
	if err != api.OK {
		return nil, err
	}
	second, err := shifted(terms[middle:], times)
	return slices.Concat(first, second), err
}

// shiftedSum returns the sum of some terms of a number, times 2^times, and whether it is allowed. To shift the sum takes far less time than to add to each exponent, since what the exponents share is gone through once.
func shiftedSum(terms []num.Term, times num.N) (num.N, bool) {
	sum, err := num.Sum(terms)
	if err != api.OK {
		return num.N{}, false
	}
	product, err := sum.Shift(times)
	return product, err == api.OK
}
