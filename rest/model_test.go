package rest_test

import (
	"bytes"
	"math/big"
	"math/rand"
	"testing"

	"sandreckoner/api"
	"sandreckoner/num"
	"sandreckoner/rest"
)

// This file makes the numbers of the tests, and calculates in other ways what the package calculates: with whole numbers that are written out, and by trying all powers of two that differ by a modulus.

// good returns the result of a call that has to succeed.
func good[T any](x T, err api.Errno) func(t *testing.T) T {
	return func(t *testing.T) T {
		t.Helper()
		if err != api.OK {
			t.Fatalf("error %d", err)
		}
		return x
	}
}

// refuses checks that a call ends with an error, and with the zero value.
func refuses[T comparable](x T, err api.Errno) func(t *testing.T, what string, want api.Errno) {
	return func(t *testing.T, what string, want api.Errno) {
		t.Helper()
		var zero T
		if err != want || x != zero {
			t.Errorf("%s: %v and error %d, not error %d and the zero value", what, x, err, want)
		}
	}
}

// same checks that two numbers are one.
func same(t *testing.T, what string, x, want num.N) {
	t.Helper()
	if x.Cmp(want) != 0 || !bytes.Equal(x.Bytes(), want.Bytes()) {
		t.Errorf("%s: %v, not %v", what, x.Bytes(), want.Bytes())
	}
}

// power returns 2 to the power of a number.
func power(t *testing.T, e num.N) num.N {
	t.Helper()
	return good(num.Of(1).Shift(e))(t)
}

// towerOf returns 2 to the power of 2 to the power of .. to the power of a number.
func towerOf(t *testing.T, levels int, top num.N) num.N {
	t.Helper()
	for range levels {
		top = power(t, top)
	}
	return top
}

// plus returns x + n.
func plus(t *testing.T, x num.N, n int64) num.N {
	t.Helper()
	return good(x.Add(num.Of(n)))(t)
}

// less returns x - y.
func less(t *testing.T, x, y num.N) num.N {
	t.Helper()
	return good(x.Sub(y))(t)
}

// spread returns the sum of so many powers of two, whose exponents are multiples of a step, from the one that is given on.
func spread(t *testing.T, terms int, from, step int64) num.N {
	t.Helper()
	var list []num.Term
	for i := range int64(terms) {
		list = append(list, num.Term{Exp: num.Of(from + i*step)})
	}
	return good(num.Sum(list))(t)
}

// heavy returns a number of a weight of more than 100: each tower of seven levels that its terms have as an exponent brings eight parts, one of eight levels brings one.
func heavy(t *testing.T, weight int) num.N {
	t.Helper()
	x := num.Of(0)
	for i := int64(0); x.Weight() <= weight-30; i++ {
		x = good(x.Add(power(t, towerOf(t, 7, num.Of(1000+i)))))(t)
	}
	for i := int64(0); x.Weight() < weight; i++ {
		x = good(x.Add(power(t, towerOf(t, 8, num.Of(1000+i)))))(t)
	}
	if x.Weight() != weight {
		t.Fatalf("the weight is %d", x.Weight())
	}
	return x
}

// absolute returns |x|.
func absolute(x num.N) num.N {
	if x.Sign() < 0 {
		return x.Neg()
	}
	return x
}

// fromBig returns the number that is written out.
func fromBig(t *testing.T, n *big.Int) num.N {
	t.Helper()
	var terms []num.Term
	size := new(big.Int).Abs(n)
	for e := range size.BitLen() {
		if size.Bit(e) == 1 {
			terms = append(terms, num.Term{Minus: n.Sign() < 0, Exp: num.Of(int64(e))})
		}
	}
	return good(num.Sum(terms))(t)
}

// bigPower returns 2^e, written out.
func bigPower(e int) *big.Int {
	return new(big.Int).Lsh(big.NewInt(1), uint(e))
}

// written returns numbers that are written out: those near 0, those near powers of two, and others of up to 150 digits, with long runs of digits that are alike.
func written(seed int64) []*big.Int {
	var list []*big.Int
	add := func(n *big.Int) {
		list = append(list, n, new(big.Int).Neg(n))
	}
	for n := range int64(70) {
		add(big.NewInt(n))
	}
	for _, e := range []int{8, 30, 31, 32, 59, 60, 61, 62, 63, 64, 65, 100, 127, 128, 200} {
		for d := int64(-3); d <= 3; d++ {
			add(new(big.Int).Add(bigPower(e), big.NewInt(d)))
		}
	}
	r := rand.New(rand.NewSource(seed))
	for range 150 {
		n := new(big.Int)
		for range 1 + r.Intn(6) {
			part := bigPower(r.Intn(60))
			switch r.Intn(3) {
			case 0:
				part.Sub(part, big.NewInt(1))
			case 1:
				part.Div(part, big.NewInt(3))
			default:
				part.Rand(r, part)
			}
			n.Add(n.Lsh(n, uint(r.Intn(80))), part)
		}
		add(n)
	}
	return list
}

// towers makes numbers one from another, most of them too great to be written out, and the negative ones to them.
func towers(t *testing.T, seed int64, count int) []num.N {
	t.Helper()
	r := rand.New(rand.NewSource(seed))
	hundred := power(t, num.Of(100))
	numbers := []num.N{num.Of(0), num.Of(1), num.Of(-2), num.Of(3), num.Of(1000), hundred, hundred.Neg(), power(t, hundred)}
	for len(numbers) < count {
		x, y := numbers[r.Intn(len(numbers))], numbers[r.Intn(len(numbers))]
		z, err := mixed(r.Intn(6), x, y)
		_, small := z.Int()
		if err != api.OK || small && r.Intn(8) > 0 || z.Weight() > 60 || z.Height() > 15 || len(z.Terms()) > 20 {
			continue
		}
		numbers = append(numbers, z, z.Neg())
	}
	return numbers
}

// mixed makes a number from two.
func mixed(way int, x, y num.N) (num.N, api.Errno) {
	switch way {
	case 0:
		return x.Add(y)
	case 1:
		return x.Sub(y)
	case 2:
		return x.Mul(y)
	case 3:
		return x.Shift(y)
	case 4:
		return num.Of(1).Shift(absolute(x))
	}
	return x.Add(num.Of(int64(y.Weight()) - 6))
}

// slowRem returns the remainder of x by m: the powers of two are tried until one comes again.
func slowRem(x num.N, m int64) int64 {
	if m == 1 {
		return 0
	}
	var powers []int64
	places := map[int64]int{}
	p := int64(1)
	for {
		if _, again := places[p]; again {
			break
		}
		places[p] = len(powers)
		powers = append(powers, p)
		p = p * 2 % m
	}
	lead, length := int64(places[p]), int64(len(powers)-places[p])
	sum := int64(0)
	for _, t := range x.Terms() {
		e, ok := t.Exp.Int()
		if !ok {
			e = lead + (slowRem(t.Exp, length)+length-lead%length)%length
		} else if e >= lead {
			e = lead + (e-lead)%length
		}
		if t.Minus {
			sum += m - powers[e]
		} else {
			sum += powers[e]
		}
	}
	return sum % m
}

// rem returns a remainder that there has to be.
func rem(t *testing.T, x num.N, m int64) int64 {
	t.Helper()
	return good(rest.Rem(x, m))(t)
}
