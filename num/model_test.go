package num_test

import (
	"bytes"
	"math/big"
	"math/rand"
	"slices"
	"testing"

	"sandreckoner/api"
	"sandreckoner/num"
)

// This file calculates in other ways what the package calculates: with whole numbers that are written out, and, for towers, with remainders.

// written is a term of a number that is written out.
type written struct {
	minus bool
	exp   int
}

// formOf returns the form of a number that is written out: where 3n and n differ, n has a term.
func formOf(n *big.Int) []written {
	size := new(big.Int).Abs(n)
	triple := new(big.Int).Mul(size, big.NewInt(3))
	var form []written
	for e := triple.BitLen() - 2; e >= 0; e-- {
		if more, less := triple.Bit(e+1), size.Bit(e+1); more != less {
			form = append(form, written{(more == 0) != (n.Sign() < 0), e})
		}
	}
	return form
}

// partsOf collects the parts of a number that is written out, by their decimal digits, with their heights, and returns its height.
func partsOf(n *big.Int, heights map[string]int) int {
	height := 0
	for _, t := range formOf(n) {
		height = max(height, partsOf(big.NewInt(int64(t.exp)), heights)+1)
	}
	heights[n.String()] = height
	return height
}

// bytesOf returns the bytes of a number that is written out, whether it is allowed or not.
func bytesOf(n *big.Int) []byte {
	heights := map[string]int{}
	partsOf(n, heights)
	delete(heights, n.String())
	var parts []*big.Int
	for digits := range heights {
		part, _ := new(big.Int).SetString(digits, 10)
		parts = append(parts, part)
	}
	slices.SortFunc(parts, (*big.Int).Cmp)
	parts = append(parts, n)
	out := []byte{byte(len(parts) >> 8), byte(len(parts))}
	for _, part := range parts {
		form := formOf(part)
		out = append(out, byte(len(form)>>8), byte(len(form)))
		for _, t := range form {
			place := slices.IndexFunc(parts, func(p *big.Int) bool { return p.Cmp(big.NewInt(int64(t.exp))) == 0 })
			out = append(out, 0, byte(place>>8), byte(place))
			if t.minus {
				out[len(out)-3] = 1
			}
		}
	}
	return out
}

// powerBytes returns the bytes of 2 to the power of a number that is greater than 0, from its bytes.
func powerBytes(b []byte) []byte {
	count := int(b[0])<<8 | int(b[1])
	out := []byte{byte((count + 1) >> 8), byte(count + 1)}
	out = append(out, b[2:]...)
	return append(out, 0, 1, 0, byte((count-1)>>8), byte(count-1))
}

// fromBig returns the number that is written out, made of its form.
func fromBig(t *testing.T, n *big.Int) num.N {
	t.Helper()
	var terms []num.Term
	for _, w := range formOf(n) {
		terms = append(terms, num.Term{Minus: w.minus, Exp: num.Of(int64(w.exp))})
	}
	return good(num.Sum(terms))(t)
}

// parse returns a number that is written out in decimal or, behind 0x, in hexadecimal digits.
func parse(digits string) *big.Int {
	n, ok := new(big.Int).SetString(digits, 0)
	if !ok {
		panic(digits)
	}
	return n
}

// expect checks that a number is the one that is written out, and that this shows in all that tells its form.
func expect(t *testing.T, what string, x num.N, want *big.Int) {
	t.Helper()
	heights := map[string]int{}
	height := partsOf(want, heights)
	if !bytes.Equal(x.Bytes(), bytesOf(want)) {
		t.Fatalf("%s: the bytes are not those of %v: %v", what, want, x.Bytes())
	}
	if x.Weight() != len(heights) || x.Height() != height || x.Sign() != want.Sign() {
		t.Fatalf("%s: weight %d, height %d, sign %d; not %d, %d, %d", what, x.Weight(), x.Height(), x.Sign(), len(heights), height, want.Sign())
	}
	form := formOf(want)
	terms := x.Terms()
	same := len(form) == len(terms)
	for i := 0; same && i < len(form); i++ {
		e, ok := terms[i].Exp.Int()
		same = ok && e == int64(form[i].exp) && terms[i].Minus == form[i].minus
	}
	if !same {
		t.Fatalf("%s: the terms are not those of %v", what, want)
	}
	if n, ok := x.Int(); ok != want.IsInt64() || ok && n != want.Int64() || !ok && n != 0 {
		t.Fatalf("%s: Int is %d, %t, not %v", what, n, ok, want)
	}
}

// good returns the number of a call that has to succeed.
func good(x num.N, e api.Errno) func(t *testing.T) num.N {
	return func(t *testing.T) num.N {
		t.Helper()
		if e != api.OK {
			t.Fatalf("error %d", e)
		}
		return x
	}
}

// refuses checks that a call ends with an error, and without a number.
func refuses(x num.N, e api.Errno) func(t *testing.T, what string, want api.Errno) {
	return func(t *testing.T, what string, want api.Errno) {
		t.Helper()
		if e != want || x != (num.N{}) {
			t.Errorf("%s: error %d and the bytes %v; not error %d and 0", what, e, x.Bytes(), want)
		}
	}
}

// same checks that two numbers are one, by all that can tell.
func same(t *testing.T, what string, x, y num.N) {
	t.Helper()
	if x.Cmp(y) != 0 || y.Cmp(x) != 0 || !bytes.Equal(x.Bytes(), y.Bytes()) {
		t.Errorf("%s: %v and %v", what, x.Bytes(), y.Bytes())
	}
}

// power returns 2 to the power of a number.
func power(t *testing.T, e num.N) num.N {
	t.Helper()
	return good(num.Of(1).Shift(e))(t)
}

// towerOf returns 2 to the power of 2 to the power of .. to the power of a number.
func towerOf(t *testing.T, levels int, top num.N) num.N {
	t.Helper()
	for range levels {
		top = power(t, top)
	}
	return top
}

// spread returns the sum of so many powers of two, whose exponents are multiples of a step, from the one that is given on.
func spread(t *testing.T, terms int, from, step int64) num.N {
	t.Helper()
	var list []num.Term
	for i := range int64(terms) {
		list = append(list, num.Term{Exp: num.Of(from + i*step)})
	}
	return good(num.Sum(list))(t)
}

// remainder returns the remainder of a number by m: the powers of two come again by m, so that of an exponent its remainder by another modulus is enough.
func remainder(x num.N, m int64) int64 {
	if m == 1 {
		return 0
	}
	lead, cycle, odd := int64(0), int64(1), m
	for ; odd%2 == 0; odd /= 2 {
		lead++
	}
	for p := 2 % odd; p != 1%odd; p = p * 2 % odd {
		cycle++
	}
	sum := int64(0)
	for _, t := range x.Terms() {
		e, ok := t.Exp.Int()
		if !ok || e >= lead {
			e = (remainder(t.Exp, cycle)-lead%cycle+cycle)%cycle + lead
		}
		p := int64(1)
		for range e {
			p = p * 2 % m
		}
		if t.Minus {
			p = m - p
		}
		sum = (sum + p) % m
	}
	return sum
}

// wellFormed checks that the terms of a number, and of its parts, are a form, within the limits.
func wellFormed(t *testing.T, x num.N) {
	t.Helper()
	terms := x.Terms()
	if len(terms) > api.MaxTerms || x.Weight() > api.MaxWeight || x.Height() > api.MaxHeight {
		t.Fatalf("%d terms, weight %d, height %d", len(terms), x.Weight(), x.Height())
	}
	for i, term := range terms {
		if term.Exp.Sign() < 0 {
			t.Fatalf("a negative exponent in %v", x.Bytes())
		}
		if i > 0 {
			next := good(term.Exp.Add(num.Of(1)))(t)
			if terms[i-1].Exp.Cmp(next) <= 0 {
				t.Fatalf("exponents that do not fall, or are neighbours, in %v", x.Bytes())
			}
		}
		wellFormed(t, term.Exp)
	}
}

// sampler makes numbers that are written out, of all sizes up to 400 digits, with long runs of digits that are alike, on which sums carry far.
type sampler struct {
	*rand.Rand
}

func newSampler(seed int64) sampler {
	return sampler{rand.New(rand.NewSource(seed))}
}

func (s sampler) sample() *big.Int {
	n := new(big.Int)
	for range s.Intn(6) {
		part := new(big.Int).Lsh(big.NewInt(1), uint(s.Intn(100)))
		switch s.Intn(3) {
		case 0:
			part.Sub(part, big.NewInt(1))
		case 1:
			part.Div(part, big.NewInt(3))
		default:
			part.Rand(s.Rand, part)
		}
		n.Lsh(n, uint(s.Intn(80)))
		n.Add(n, part)
	}
	if s.Intn(2) == 0 {
		n.Neg(n)
	}
	return n
}
