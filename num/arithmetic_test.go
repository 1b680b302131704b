package num_test

import (
	"math"
	"math/big"
	"slices"
	"testing"

	"sandreckoner/api"
	"sandreckoner/num"
)

// P1.5, T2: signs, order and negatives of numbers that are written out.
func TestOrder(t *testing.T) {
	list := edges()
	s := newSampler(15)
	for range 40 {
		n := s.sample()
		list = append(list, n, new(big.Int).Add(n, big.NewInt(int64(s.Intn(5)-2))))
	}
	var numbers []num.N
	for _, n := range list {
		x := fromBig(t, n)
		numbers = append(numbers, x)
		expect(t, "Neg", x.Neg(), new(big.Int).Neg(n))
		if x.Sign() != n.Sign() {
			t.Errorf("the sign of %v: %d", n, x.Sign())
		}
	}
	for i, x := range numbers {
		for j, y := range numbers {
			if x.Cmp(y) != list[i].Cmp(list[j]) {
				t.Fatalf("%v and %v: %d", list[i], list[j], x.Cmp(y))
			}
		}
	}
	same(t, "-(-2^63)", num.Of(math.MinInt64).Neg(), power(t, num.Of(63)))
	same(t, "-(2^63)", power(t, num.Of(63)).Neg(), num.Of(math.MinInt64))
}

// P1.5: towers in their order.
func TestOrderOfTowers(t *testing.T) {
	x := power(t, num.Of(100))
	y := power(t, x)
	z := power(t, y)
	rising := []num.N{
		z.Neg(), good(y.Neg().Sub(num.Of(1)))(t), y.Neg(), good(y.Neg().Add(x))(t), x.Neg(), num.Of(-1), num.Of(0), num.Of(1),
		x, good(y.Shift(num.Of(-1)))(t), good(y.Sub(x))(t), good(y.Sub(num.Of(1)))(t), y, good(y.Add(num.Of(1)))(t), good(y.Add(x))(t), good(y.Add(y))(t),
		good(y.Mul(y))(t), good(z.Shift(x.Neg()))(t), good(z.Sub(y))(t), z, good(z.Add(num.Of(1)))(t), power(t, good(y.Add(num.Of(1)))(t)),
	}
	for i, x := range rising {
		for j, y := range rising {
			want := 0
			if i < j {
				want = -1
			} else if i > j {
				want = 1
			}
			if x.Cmp(y) != want || x.Neg().Cmp(y.Neg()) != -want {
				t.Errorf("number %d and number %d: %d", i, j, x.Cmp(y))
			}
		}
	}
	// The difference is not allowed, but has a sign.
	many, more := spread(t, api.MaxTerms, 0, 4), spread(t, api.MaxTerms, 2, 4)
	refuses(more.Sub(many))(t, "the difference", api.ErrFull)
	if more.Cmp(many) != 1 || many.Cmp(more) != -1 || more.Cmp(more) != 0 {
		t.Error("numbers of many terms")
	}
	high := towerOf(t, api.MaxHeight-1, num.Of(1))
	if high.Cmp(high.Neg()) != 1 || high.Cmp(good(high.Add(num.Of(1)))(t)) != -1 {
		t.Error("a tower of the greatest height")
	}
	// Equal numbers that were made apart, of which all parts have to be looked at.
	u, v := heavy(t, 1000), heavy(t, 1000)
	if u.Cmp(v) != 0 || good(u.Add(num.Of(1)))(t).Cmp(v) != 1 {
		t.Error("heavy numbers")
	}
}

// P1.6, P1.7, P1.8, T2: sums, differences, products and shifts of numbers that are written out.
func TestArithmetic(t *testing.T) {
	s := newSampler(16)
	for range 500 {
		m, n := s.sample(), s.sample()
		x, y := fromBig(t, m), fromBig(t, n)
		expect(t, "Add", good(x.Add(y))(t), new(big.Int).Add(m, n))
		expect(t, "Sub", good(x.Sub(y))(t), new(big.Int).Sub(m, n))
		expect(t, "Sub", good(y.Sub(x))(t), new(big.Int).Sub(n, m))
		if len(x.Terms())*len(y.Terms()) <= api.MaxProduct {
			if product := new(big.Int).Mul(m, n); len(formOf(product)) <= api.MaxTerms {
				expect(t, "Mul", good(x.Mul(y))(t), product)
			}
		}
		checkShift(t, m, s.Intn(140)-70)
	}
}

// checkShift compares a shift with that of a number that is written out.
func checkShift(t *testing.T, n *big.Int, by int) {
	t.Helper()
	x, y := fromBig(t, n), num.Of(int64(by))
	if by >= 0 {
		expect(t, "Shift", good(x.Shift(y))(t), new(big.Int).Lsh(n, uint(by)))
		return
	}
	if n.Sign() != 0 && int(n.TrailingZeroBits()) < -by {
		refuses(x.Shift(y))(t, "Shift to no whole number", api.ErrRange)
		return
	}
	expect(t, "Shift", good(x.Shift(y))(t), new(big.Int).Rsh(n, uint(-by)))
}

// P1.6, P1.8: where the machine's numbers end.
func TestArithmeticOfEdges(t *testing.T) {
	list := edges()
	for _, m := range list {
		x := fromBig(t, m)
		for _, n := range list {
			y := fromBig(t, n)
			if got, want := good(x.Add(y))(t), fromBig(t, new(big.Int).Add(m, n)); got.Cmp(want) != 0 {
				t.Fatalf("%v + %v: %v", m, n, got.Bytes())
			}
			if got, want := good(x.Sub(y))(t), fromBig(t, new(big.Int).Sub(m, n)); got.Cmp(want) != 0 {
				t.Fatalf("%v - %v: %v", m, n, got.Bytes())
			}
			if got, want := good(x.Mul(y))(t), fromBig(t, new(big.Int).Mul(m, n)); got.Cmp(want) != 0 {
				t.Fatalf("%v * %v: %v", m, n, got.Bytes())
			}
		}
	}
	least := num.Of(math.MinInt64)
	expect(t, "-2^63 - 2^63", good(least.Add(least))(t), parse("-0x10000000000000000"))
	expect(t, "0 - (-2^63)", good(num.Of(0).Sub(least))(t), parse("0x8000000000000000"))
	expect(t, "-2^63 * -1", good(least.Mul(num.Of(-1)))(t), parse("0x8000000000000000"))
	expect(t, "-1 * -2^63", good(num.Of(-1).Mul(least))(t), parse("0x8000000000000000"))
	expect(t, "-2^63 squared", good(least.Mul(least))(t), parse("0x40000000000000000000000000000000"))
	expect(t, "2^32 squared", good(num.Of(1<<32).Mul(num.Of(1<<32)))(t), parse("0x10000000000000000"))
	expect(t, "-2^63 shifted", good(least.Shift(num.Of(-63)))(t), big.NewInt(-1))
}

// P1.6: sums of towers, and those that are not allowed.
func TestAdd(t *testing.T) {
	p := power(t, num.Of(100))
	same(t, "2^100 - 2^100", good(p.Sub(p))(t), num.Of(0))
	same(t, "2^100 + 2^100", good(p.Add(p))(t), power(t, num.Of(101)))
	x := power(t, p)
	one := num.Of(1)
	y := good(x.Sub(one))(t)
	if terms := y.Terms(); len(terms) != 2 || terms[0].Minus || terms[0].Exp.Cmp(p) != 0 || !terms[1].Minus || terms[1].Exp.Sign() != 0 {
		t.Errorf("2^(2^100) - 1: %v", y.Bytes())
	}
	same(t, "x - 1 + 1", good(y.Add(one))(t), x)
	same(t, "3 x", good(good(x.Add(x))(t).Add(x))(t), good(power(t, good(p.Add(num.Of(2)))(t)).Sub(x))(t))
	// 150 terms and 151 others.
	many := spread(t, 150, 0, 4)
	refuses(many.Add(spread(t, 151, 2, 4)))(t, "301 terms", api.ErrFull)
	refuses(many.Sub(spread(t, 151, 2, 4)))(t, "301 terms", api.ErrFull)
	if z := good(many.Add(spread(t, 150, 2, 4)))(t); len(z.Terms()) != api.MaxTerms {
		t.Errorf("300 terms: %d", len(z.Terms()))
	}
	// Sums of as many terms that come to a single one.
	full := spread(t, api.MaxTerms, 0, 2)
	twice := good(full.Add(full))(t)
	ones := good(full.Add(twice))(t)
	same(t, "a long carry", ones, good(power(t, num.Of(2*api.MaxTerms)).Sub(one))(t))
	same(t, "a carry through all terms", good(twice.Neg().Sub(full))(t).Neg(), ones)
}

// P1.7: shifts.
func TestShift(t *testing.T) {
	p := power(t, num.Of(100))
	x := power(t, p)
	zero := num.Of(0)
	same(t, "12 >> 2", good(num.Of(12).Shift(num.Of(-2)))(t), num.Of(3))
	refuses(num.Of(12).Shift(num.Of(-3)))(t, "12 >> 3", api.ErrRange)
	refuses(num.Of(1).Shift(p.Neg()))(t, "1 >> 2^100", api.ErrRange)
	refuses(good(x.Add(num.Of(1)))(t).Shift(num.Of(-1)))(t, "x + 1 >> 1", api.ErrRange)
	refuses(num.Of(-1).Shift(num.Of(math.MinInt64)))(t, "-1 >> 2^63", api.ErrRange)
	for _, by := range []num.N{zero, num.Of(5), num.Of(-1), p, p.Neg(), x.Neg(), towerOf(t, api.MaxHeight-1, num.Of(1))} {
		same(t, "0 shifted", good(zero.Shift(by))(t), zero)
	}
	same(t, "x >> 2^100", good(x.Shift(p.Neg()))(t), num.Of(1))
	refuses(x.Shift(good(p.Add(num.Of(1)))(t).Neg()))(t, "x >> 2^100 + 1", api.ErrRange)
	y := good(good(power(t, x).Sub(x))(t).Add(p))(t) // 2^x - x + 2^100
	same(t, "there and back", good(good(y.Shift(x))(t).Shift(x.Neg()))(t), y)
	same(t, "by the least exponent", good(y.Shift(num.Of(-100)))(t).Terms()[2].Exp, zero)
	refuses(y.Shift(num.Of(-101)))(t, "by one more", api.ErrRange)
	same(t, "a negative number", good(y.Neg().Shift(num.Of(7)))(t), good(y.Mul(num.Of(-128)))(t))
	refuses(num.Of(1).Shift(towerOf(t, api.MaxHeight-1, num.Of(1))))(t, "too high", api.ErrFull)
	shifted := good(num.Of(math.MinInt64).Shift(num.Of(math.MaxInt64)))(t) // exponents just beyond an int64
	same(t, "63 + 2^63 - 1", shifted.Terms()[0].Exp, fromBig(t, parse("0x800000000000003e")))
}

// P1.8: products, and how many there may be.
func TestMul(t *testing.T) {
	p := power(t, num.Of(100))
	one := num.Of(1)
	same(t, "3 * 5", good(num.Of(3).Mul(num.Of(5)))(t), num.Of(15))
	same(t, "(2^100 + 1) (2^100 - 1)", good(good(p.Add(one))(t).Mul(good(p.Sub(one))(t)))(t), good(power(t, num.Of(200)).Sub(one))(t))
	x := power(t, p)
	same(t, "x x", good(x.Mul(x.Neg()))(t), power(t, power(t, num.Of(101))).Neg())
	same(t, "0 x", good(num.Of(0).Mul(x))(t), num.Of(0))
	same(t, "x 0", good(x.Mul(num.Of(0)))(t), num.Of(0))
	hundred := spread(t, 100, 0, 2)
	square := good(hundred.Mul(hundred))(t)
	third := new(big.Int).Div(new(big.Int).Lsh(big.NewInt(1), 200), big.NewInt(3))
	expect(t, "100 terms times 100", square, new(big.Int).Mul(third, third))
	refuses(hundred.Mul(spread(t, 101, 0, 2)))(t, "100 times 101", api.ErrFull)
	refuses(spread(t, 73, 0, 2).Mul(spread(t, 137, 0, 2)))(t, "10001 products", api.ErrFull)
	refuses(spread(t, 137, 0, 2).Mul(spread(t, 73, 0, 2).Neg()))(t, "10001 products", api.ErrFull)
	full := spread(t, api.MaxTerms, 0, 2)
	same(t, "300 terms times 0", good(full.Mul(num.Of(0)))(t), num.Of(0))
	same(t, "300 terms times 1", good(full.Mul(one))(t), full)
	same(t, "300 terms times 3", good(full.Mul(num.Of(3)))(t), good(power(t, num.Of(2*api.MaxTerms)).Sub(one))(t))
	// Terms that lie far apart: 17 times 18 are 306, 15 times 20 are 300.
	refuses(spread(t, 17, 0, 2).Mul(spread(t, 18, 0, 100)))(t, "306 terms", api.ErrFull)
	if z := good(spread(t, 15, 0, 2).Mul(spread(t, 20, 0, 100)))(t); len(z.Terms()) != api.MaxTerms {
		t.Errorf("300 terms: %d", len(z.Terms()))
	}
}

// P1.8: the sums in between have thousands of terms, whether the one or the other number is gone through first.
func TestMulThroughLongSums(t *testing.T) {
	// Of q and the sum of 2^(1000 i) for i below 100, times 2^1000 - 1, just both ends are left; likewise with 2^7 - 1 and 14 i for q.
	one := num.Of(1)
	row := spread(t, 50, 0, 7)
	end := good(power(t, num.Of(1000)).Sub(one))(t)
	x := good(row.Mul(end))(t)
	y := spread(t, 100, 0, 1000)
	if len(x.Terms()) != 100 || len(y.Terms()) != 100 {
		t.Fatalf("%d and %d terms", len(x.Terms()), len(y.Terms()))
	}
	want := good(good(row.Shift(num.Of(100000)))(t).Sub(row))(t)
	same(t, "x y", good(x.Mul(y))(t), want)
	same(t, "y x", good(y.Mul(x))(t), want)
	refuses(row.Mul(y))(t, "a part of the product", api.ErrFull)
}

// P1.9: sums of terms.
func TestSum(t *testing.T) {
	plus := func(e int64) num.Term { return num.Term{Exp: num.Of(e)} }
	minus := func(e int64) num.Term { return num.Term{Minus: true, Exp: num.Of(e)} }
	same(t, "no terms", good(num.Sum(nil))(t), num.Of(0))
	same(t, "no terms", good(num.Sum([]num.Term{}))(t), num.Of(0))
	same(t, "1 + 1 + 2", good(num.Sum([]num.Term{plus(0), plus(0), plus(1)}))(t), num.Of(4))
	same(t, "32 - 16", good(num.Sum([]num.Term{plus(5), minus(4)}))(t), num.Of(16))
	same(t, "-16 + 32", good(num.Sum([]num.Term{minus(4), plus(5)}))(t), num.Of(16))
	same(t, "16 - 16", good(num.Sum([]num.Term{plus(4), minus(4)}))(t), num.Of(0))
	same(t, "the zero value", good(num.Sum([]num.Term{{}, {}, {}}))(t), num.Of(3))
	s := newSampler(19)
	for range 300 {
		var terms []num.Term
		want := new(big.Int)
		for range s.Intn(200) {
			e, less := s.Intn(60), s.Intn(2) == 0
			terms = append(terms, num.Term{Minus: less, Exp: num.Of(int64(e))})
			if p := new(big.Int).Lsh(big.NewInt(1), uint(e)); less {
				want.Sub(want, p)
			} else {
				want.Add(want, p)
			}
		}
		expect(t, "a sum", good(num.Sum(terms))(t), want)
	}
}

// P1.9: what Sum refuses, and in which order.
func TestSumRefuses(t *testing.T) {
	p := power(t, num.Of(100))
	thousand := slices.Repeat([]num.Term{{Exp: p}}, 1000)
	same(t, "1000 terms", good(num.Sum(thousand))(t), good(power(t, p).Mul(num.Of(1000)))(t))
	more := append(slices.Clone(thousand), num.Term{Minus: true, Exp: p})
	refuses(num.Sum(more))(t, "1001 terms", api.ErrFull)
	more[1000].Exp = num.Of(-1)
	refuses(num.Sum(more))(t, "1001 terms, the last one of a negative exponent", api.ErrArg)
	thousand[500].Exp = p.Neg()
	refuses(num.Sum(thousand))(t, "a negative exponent", api.ErrArg)
	refuses(num.Sum([]num.Term{{Exp: num.Of(math.MinInt64)}}))(t, "the least exponent", api.ErrArg)
	high := num.Term{Exp: towerOf(t, api.MaxHeight-1, num.Of(1))}
	refuses(num.Sum([]num.Term{high, {Exp: num.Of(-1)}}))(t, "too high, and a negative exponent", api.ErrArg)
	// 1000 terms, of which 300 or 301 are left.
	var terms []num.Term
	for i := range int64(1000) {
		terms = append(terms, num.Term{Minus: i >= 650, Exp: num.Of(2 * (i % 650))})
	}
	same(t, "300 of 1000", good(num.Sum(terms))(t), spread(t, 300, 700, 2))
	terms[999] = num.Term{Exp: num.Of(5000)}
	refuses(num.Sum(terms))(t, "302 of 1000", api.ErrFull)
	refuses(num.Sum(terms[:999]))(t, "301 of 999", api.ErrFull)
}

// P1.10: what Terms returns is the form, and is not kept.
func TestTerms(t *testing.T) {
	p := power(t, num.Of(100))
	x := good(good(power(t, p).Sub(p))(t).Add(num.Of(6)))(t)
	for _, x := range []num.N{x, num.Of(23)} {
		before := x.Bytes()
		terms := x.Terms()
		same(t, "the sum of the terms", good(num.Sum(terms))(t), x)
		slices.Reverse(terms)
		same(t, "the sum of the terms", good(num.Sum(terms))(t), x)
		clear(terms)
		if !slices.Equal(x.Bytes(), before) {
			t.Error("the terms share memory with the number")
		}
	}
	if terms := num.Of(0).Terms(); len(terms) != 0 {
		t.Errorf("0 has %d terms", len(terms))
	}
	terms := x.Terms()
	if len(terms) != 4 || terms[0].Minus || !terms[1].Minus || terms[2].Minus || !terms[3].Minus {
		t.Fatalf("2^(2^100) - 2^100 + 2^3 - 2^1: %d terms", len(terms))
	}
	for i, e := range []num.N{p, num.Of(100), num.Of(3), num.Of(1)} {
		same(t, "an exponent", terms[i].Exp, e)
	}
}
