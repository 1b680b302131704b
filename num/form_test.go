package num_test

import (
	"bytes"
	"math"
	"math/big"
	"testing"

	"sandreckoner/api"
	"sandreckoner/num"
)

// edges are numbers at the ends of the machine's numbers, and about powers of two.
func edges() []*big.Int {
	var list []*big.Int
	for _, e := range []uint{0, 1, 2, 3, 8, 30, 31, 32, 61, 62, 63, 64, 65, 127, 128} {
		for d := int64(-3); d <= 3; d++ {
			n := new(big.Int).Lsh(big.NewInt(1), e)
			n.Add(n, big.NewInt(d))
			list = append(list, n, new(big.Int).Neg(n))
		}
	}
	return list
}

// P1.1: every number has its form, and no other one.
func TestForm(t *testing.T) {
	for n := int64(-1100); n <= 1100; n++ {
		expect(t, "Of", num.Of(n), big.NewInt(n))
	}
	for _, n := range edges() {
		expect(t, "an edge", fromBig(t, n), n)
		if n.IsInt64() {
			expect(t, "Of an edge", num.Of(n.Int64()), n)
		}
	}
	s := newSampler(11)
	for range 300 {
		n := s.sample()
		expect(t, "a number", fromBig(t, n), n)
	}
	for n, want := range map[int64][]written{3: {{false, 2}, {true, 0}}, 5: {{false, 2}, {false, 0}}, 11: {{false, 4}, {true, 2}, {true, 0}}, -6: {{true, 3}, {false, 1}}} {
		terms := num.Of(n).Terms()
		if len(terms) != len(want) {
			t.Fatalf("%d has %d terms", n, len(terms))
		}
		for i, term := range terms {
			if e, ok := term.Exp.Int(); !ok || e != int64(want[i].exp) || term.Minus != want[i].minus {
				t.Errorf("%d: term %d", n, i)
			}
		}
	}
}

// P1.1, where exponents are just beyond the machine's numbers.
func TestFormOfGreatExponents(t *testing.T) {
	last := power(t, num.Of(math.MaxInt64))
	beyond := power(t, power(t, num.Of(63)))
	same(t, "2^e + 2^e", good(last.Add(last))(t), beyond)
	same(t, "2^(e+1) - 2^e", good(beyond.Sub(last))(t), last)
	x := power(t, num.Of(100))
	y := good(x.Add(num.Of(1)))(t)
	sum := good(power(t, x).Add(power(t, y)))(t)
	terms := sum.Terms()
	if len(terms) != 2 || terms[0].Minus || !terms[1].Minus {
		t.Fatalf("2^(x+1) + 2^x has %d terms", len(terms))
	}
	same(t, "2^(x+2)", terms[0].Exp, good(x.Add(num.Of(2)))(t))
	same(t, "2^x", terms[1].Exp, x)
	same(t, "2^(x+1) - 2^x", good(power(t, y).Sub(power(t, x)))(t), power(t, x))
	for seven := int64(0); seven < 8; seven++ { // exponents that lie side by side up to a long carry
		e := good(x.Add(num.Of(seven)))(t)
		var terms []num.Term
		for i := range int64(40) {
			terms = append(terms, num.Term{Exp: good(e.Add(num.Of(i)))(t)})
		}
		want := good(power(t, good(e.Add(num.Of(40)))(t)).Sub(power(t, e)))(t)
		same(t, "forty ones", good(num.Sum(terms))(t), want)
		wellFormed(t, want)
	}
}

// P1.2: weights and heights.
func TestWeightAndHeight(t *testing.T) {
	for n, want := range map[int64][2]int{0: {1, 0}, 1: {2, 1}, 2: {3, 2}, 3: {4, 3}, 7: {5, 4}, -7: {5, 4}, 16: {5, 4}, 65536: {6, 5}, -65536: {6, 5}} {
		x := num.Of(n)
		if x.Weight() != want[0] || x.Height() != want[1] {
			t.Errorf("%d: weight %d, height %d", n, x.Weight(), x.Height())
		}
	}
	// 2^(2^100) + 2^100: the parts of 100 = 2^7 - 2^5 + 2^2 are 7, 5, 3, 2, 1, 0 and itself.
	x := power(t, num.Of(100))
	y := good(power(t, x).Add(x))(t)
	if y.Weight() != 9 || y.Height() != x.Height()+1 {
		t.Errorf("weight %d, height %d", y.Weight(), y.Height())
	}
	if e := y.Terms()[0].Exp; e.Weight() != 8 || e.Height() != x.Height() {
		t.Errorf("of an exponent: weight %d, height %d", e.Weight(), e.Height())
	}
}

// P1.2, P6: the most terms that are allowed, and one more, in a number and in a part of it.
func TestMostTerms(t *testing.T) {
	most := spread(t, api.MaxTerms, 0, 2)
	if len(most.Terms()) != api.MaxTerms {
		t.Fatalf("%d terms", len(most.Terms()))
	}
	one := power(t, num.Of(2*api.MaxTerms))
	refuses(most.Add(one))(t, "one more term", api.ErrFull)
	refuses(most.Neg().Sub(one))(t, "one more term less", api.ErrFull)
	tall := power(t, most)
	refuses(tall.Shift(one))(t, "one more term of an exponent", api.ErrFull)
	refuses(tall.Mul(power(t, one)))(t, "one more term of an exponent", api.ErrFull)
	if y := good(tall.Shift(good(one.Sub(num.Of(1)))(t)))(t); len(y.Terms()[0].Exp.Terms()) != api.MaxTerms {
		t.Errorf("the exponent %v", y.Terms()[0].Exp.Bytes())
	}
	// (2^a + 2^b) (2^c - 2^d), where the sums a + c and b + d are not allowed, but the same.
	a, b, c, d := most, good(most.Add(good(one.Sub(num.Of(1)))(t)))(t), one, num.Of(1)
	refuses(a.Add(c))(t, "a + c", api.ErrFull)
	refuses(b.Add(d))(t, "b + d", api.ErrFull)
	left, right := good(power(t, a).Add(power(t, b)))(t), good(power(t, c).Sub(power(t, d)))(t)
	want := good(power(t, good(b.Add(c))(t)).Sub(power(t, good(a.Add(d))(t))))(t)
	same(t, "the product", good(left.Mul(right))(t), want)
}

// heavy returns the sum of powers of two whose weight is the one that is given: each tower of eight levels brings eight parts, a level more on one of them brings one.
func heavy(t *testing.T, weight int) num.N {
	t.Helper()
	x := num.Of(0)
	for i := int64(0); x.Weight() < weight; i++ {
		levels := 7
		if x.Weight() > weight-30 {
			levels, i = 8, int64(weight-x.Weight())
		}
		x = good(x.Add(power(t, towerOf(t, levels, num.Of(1000+i)))))(t)
	}
	if x.Weight() != weight {
		t.Fatalf("the weight is %d", x.Weight())
	}
	return x
}

// P1.2, P6: the greatest weight that is allowed, and one more.
func TestMostWeight(t *testing.T) {
	x := heavy(t, api.MaxWeight)
	one := towerOf(t, 9, num.Of(1040))
	refuses(x.Add(one))(t, "one part more", api.ErrFull)
	refuses(x.Sub(one))(t, "one part more", api.ErrFull)
	refuses(num.Of(1).Shift(x))(t, "one part more", api.ErrFull)
	refuses(num.Sum(append(x.Terms(), one.Terms()...)))(t, "one part more", api.ErrFull)
	refuses(num.Sum([]num.Term{{Exp: x}}))(t, "one part more", api.ErrFull)
	known := towerOf(t, 7, num.Of(1000))
	if y := good(x.Add(known))(t); y.Weight() != api.MaxWeight {
		t.Errorf("a power of a part: %d", y.Weight())
	}
	same(t, "x - x", good(x.Sub(x))(t), num.Of(0))
	y := heavy(t, api.MaxWeight-1)
	if z := power(t, y); z.Weight() != api.MaxWeight {
		t.Errorf("2^y: %d", z.Weight())
	}
}

// P1.2, P6: the greatest height that is allowed, and one more.
func TestMostHeight(t *testing.T) {
	x := towerOf(t, api.MaxHeight-1, num.Of(1))
	if x.Height() != api.MaxHeight || x.Weight() != api.MaxHeight+1 {
		t.Fatalf("height %d, weight %d", x.Height(), x.Weight())
	}
	refuses(num.Of(1).Shift(x))(t, "one level more", api.ErrFull)
	refuses(num.Of(-3).Shift(x))(t, "one level more", api.ErrFull)
	refuses(num.Sum([]num.Term{{Exp: x}}))(t, "one level more", api.ErrFull)
	refuses(num.Sum([]num.Term{{Exp: num.Of(5)}, {Minus: true, Exp: x}}))(t, "one level more", api.ErrFull)
	y := good(x.Add(num.Of(5)))(t)
	if y.Height() != api.MaxHeight {
		t.Errorf("x + 5: %d", y.Height())
	}
	both := []num.Term{{Exp: x}, {Exp: num.Of(5)}, {Minus: true, Exp: x}}
	same(t, "too high for a while", good(num.Sum(both))(t), num.Of(32))
	// The exponent of 2^x + 2^x is x + 1, and of the same height.
	e := x.Terms()[0].Exp
	same(t, "x + x", good(x.Add(x))(t), power(t, good(e.Add(num.Of(1)))(t)))
}

// P1.3: the bytes of numbers that the document gives, and of some by hand.
func TestBytes(t *testing.T) {
	for n, want := range map[int64][]byte{
		0:  {0, 1, 0, 0},
		1:  {0, 2, 0, 0, 0, 1, 0, 0, 0},
		-1: {0, 2, 0, 0, 0, 1, 1, 0, 0},
		7:  {0, 5, 0, 0, 0, 1, 0, 0, 0, 0, 1, 0, 0, 1, 0, 2, 0, 0, 2, 1, 0, 0, 0, 2, 0, 0, 3, 1, 0, 0},
		-7: {0, 5, 0, 0, 0, 1, 0, 0, 0, 0, 1, 0, 0, 1, 0, 2, 0, 0, 2, 1, 0, 0, 0, 2, 1, 0, 3, 0, 0, 0},
	} {
		if b := num.Of(n).Bytes(); !bytes.Equal(b, want) {
			t.Errorf("%d: %v", n, b)
		}
	}
	x := num.Of(1)
	b := x.Bytes()
	for range api.MaxHeight - 1 {
		x, b = power(t, x), powerBytes(b)
		if !bytes.Equal(x.Bytes(), b) {
			t.Fatalf("the height %d", x.Height())
		}
	}
	// 2^(2^100) - 2^100: the parts in order, and 100 and 2^100 are there once.
	y := good(power(t, power(t, num.Of(100))).Sub(power(t, num.Of(100))))(t)
	want := []byte{0, 9, 0, 0, 0, 1, 0, 0, 0, 0, 1, 0, 0, 1, 0, 2, 0, 0, 2, 1, 0, 0, 0, 2, 0, 0, 2, 0, 0, 0}
	want = append(want, 0, 2, 0, 0, 3, 1, 0, 0)                         // 7
	want = append(want, 0, 3, 0, 0, 5, 1, 0, 4, 0, 0, 2, 0, 1, 0, 0, 6) // 100, 2^100
	want = append(want, 0, 2, 0, 0, 7, 1, 0, 6)                         // the number
	if !bytes.Equal(y.Bytes(), want) {
		t.Errorf("2^(2^100) - 2^100: %v", y.Bytes())
	}
	first := y.Bytes()
	clear(first)
	if !bytes.Equal(y.Bytes(), want) {
		t.Error("the bytes share memory with the number")
	}
}

// P1.4: numbers and int64s.
func TestInt(t *testing.T) {
	for _, n := range []int64{0, 1, -1, 12, 1 << 40, math.MaxInt64, math.MinInt64, math.MaxInt64 - 1, math.MinInt64 + 1} {
		if m, ok := num.Of(n).Int(); !ok || m != n {
			t.Errorf("%d: %d, %t", n, m, ok)
		}
	}
	var zero num.N
	same(t, "the zero value", zero, num.Of(0))
	for _, n := range edges() { // expect looks at Int
		expect(t, "an edge", fromBig(t, n), n)
	}
	for _, x := range []num.N{power(t, num.Of(63)), power(t, num.Of(64)), power(t, power(t, num.Of(64))).Neg()} {
		if n, ok := x.Int(); ok || n != 0 {
			t.Errorf("%v: %d, %t", x.Bytes(), n, ok)
		}
	}
	// The least int64, and the greatest, made of numbers that are none.
	least := good(power(t, num.Of(64)).Sub(power(t, num.Of(63))))(t).Neg()
	same(t, "-2^63", least, num.Of(math.MinInt64))
	same(t, "2^63 - 1", good(power(t, num.Of(63)).Sub(num.Of(1)))(t), num.Of(math.MaxInt64))
	if n, ok := least.Int(); !ok || n != math.MinInt64 {
		t.Errorf("-2^63: %d, %t", n, ok)
	}
}
