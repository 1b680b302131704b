package baum_test

import (
	"math/big"
	"testing"

	"sandreckoner/api"
	"sandreckoner/baum"
	"sandreckoner/num"
)

// mul returns a product that there has to be.
func mul(t *testing.T, x, y baum.E) baum.E {
	t.Helper()
	return good(baum.Mul(x, y))(t)
}

// inv returns an inverse that there has to be.
func inv(t *testing.T, x baum.E) baum.E {
	t.Helper()
	return good(baum.Inv(x))(t)
}

// P5.1: products and inverses of elements that are written out, plain ones and others.
func TestElementsWrittenOut(t *testing.T) {
	s := newSampler(11)
	unit := of(0, 0, 0)
	for range 5000 {
		a, b, c := int64(s.Intn(41)-20), int64(s.Intn(19)-9), int64(s.Intn(19)-9)
		d, e, f := int64(s.Intn(41)-20), int64(s.Intn(19)-9), int64(s.Intn(19)-9)
		x, y := of(a, b, c), of(d, e, f)
		same(t, show(x)+" "+show(y), mul(t, x, y), slowOf(a, b, c).times(slowOf(d, e, f)).plain(t))
		same(t, "x 1", mul(t, x, unit), slowOf(a, b, c).plain(t))
		same(t, "1 x", mul(t, unit, x), slowOf(a, b, c).plain(t))
		z := inv(t, x)
		same(t, "the plain form of "+show(x), mul(t, z, unit), z)
		same(t, show(x)+" and its inverse", mul(t, x, z), unit)
		same(t, show(x)+" behind its inverse", mul(t, z, x), unit)
	}
}

// P5.1: the numbers of elements that are no int64s.
func TestElementsOfManyDigits(t *testing.T) {
	s := newSampler(12)
	for range 300 {
		var list []slow
		x := slowOf(1, 0, 0)
		for range 20 {
			list = append(list, slowOf(int64(s.Intn(1000)-500), int64(s.Intn(200)-100), int64(s.Intn(200)-100)))
		}
		got := x.plain(t)
		for _, y := range list {
			x = x.times(y)
			got = mul(t, got, y.plain(t))
		}
		same(t, "a long product", got, x.plain(t))
		back := inv(t, got)
		z := slow{x.sum, x.m}
		z.sum = new(big.Rat).Neg(new(big.Rat).Mul(x.sum, twoTo(-x.m)))
		z.m = -x.m
		same(t, "its inverse", back, z.plain(t))
	}
}

// P5.1: the document's examples, and elements that are not plain.
func TestElementExamples(t *testing.T) {
	for _, x := range []struct{ a, b, product baum.E }{
		{of(1, 0, 0), of(0, 0, 1), of(1, 0, 1)},
		{of(0, 0, 1), of(1, 0, 0), of(1, 1, 1)},
		{of(6, 1, 0), of(0, 5, 0), of(3, 2, 0)},
		{of(1, 0, 0), of(-1, 0, 0), of(0, 0, 0)},
		{of(4, -2, 3), of(-1, -3, 0), of(0, 0, 3)},
		{of(0, 7, 2), of(0, -9, -5), of(0, 0, -3)},
		{of(0, 7, 2), of(12, -9, -5), of(3, -5, -3)},
		{of(12, -9, -5), of(0, 7, 2), of(3, -7, -3)},
	} {
		same(t, "a product", mul(t, x.a, x.b), x.product)
	}
	for _, x := range []struct{ a, inverse baum.E }{
		{of(1, 0, 1), of(-1, -1, -1)},
		{of(0, 7, 2), of(0, 0, -2)},
		{of(0, 0, 0), of(0, 0, 0)},
		{of(0, -7, 0), of(0, 0, 0)},
		{of(12, -2, 0), of(-3, 0, 0)},
		{of(12, -2, -3), of(-3, 3, 3)},
		{of(-8, 1, 4), of(1, 0, -4)},
	} {
		same(t, "an inverse", inv(t, x.a), x.inverse)
	}
}

// P5.1: t to the power of a tower, and what it does to a.
func TestElementsOfTowers(t *testing.T) {
	k := towerOf(t, 20, num.Of(3))
	a, up, down := of(1, 0, 0), baum.E{M: k}, baum.E{M: k.Neg()}
	same(t, "the inverse of t^k", inv(t, up), down)
	same(t, "t^k a", mul(t, up, a), baum.E{U: num.Of(1), V: k, M: k})
	same(t, "t^k a t^-k", mul(t, mul(t, up, a), down), baum.E{U: num.Of(1), V: k})
	half := mul(t, mul(t, down, a), up)
	same(t, "t^-k a t^k", half, baum.E{U: num.Of(1), V: k.Neg()})
	x := baum.E{U: plus(t, power(t, k), num.Of(1)), V: k.Neg()}
	same(t, "a with it", mul(t, a, half), x)
	same(t, "a with it, the other way about", mul(t, half, a), x)
	same(t, "and taken away", mul(t, x, inv(t, half)), a)
	// 2^k is put down as (2^k, 0, 0), (1, k, 0), or (2^(2 k), -k, 0).
	for _, y := range []baum.E{{U: power(t, k)}, {U: num.Of(1), V: k}, {U: power(t, plus(t, k, k)), V: k.Neg()}} {
		same(t, "2^k", mul(t, y, of(0, 0, 0)), baum.E{U: num.Of(1), V: k})
		same(t, "-2^k", inv(t, y), baum.E{U: num.Of(-1), V: k})
		same(t, "0", mul(t, y, baum.E{U: num.Of(-1), V: k}), of(0, 0, 0))
	}
}

// P5.1, T2: the laws of a group, for elements that cannot be written out.
func TestElementLaws(t *testing.T) {
	k, l := towerOf(t, 5, num.Of(2)), plus(t, towerOf(t, 2, num.Of(100)), num.Of(-7))
	numbers := []num.N{num.Of(0), num.Of(3), num.Of(-40), k, k.Neg(), plus(t, k, l), l.Neg()}
	s := newSampler(13)
	any := func() baum.E {
		return baum.E{U: numbers[s.Intn(len(numbers))], V: numbers[s.Intn(len(numbers))], M: numbers[s.Intn(len(numbers))]}
	}
	for range 400 {
		x, y, z := any(), any(), any()
		same(t, "(x y) z and x (y z)", mul(t, mul(t, x, y), z), mul(t, x, mul(t, y, z)))
		same(t, "the inverse of x y", inv(t, mul(t, x, y)), mul(t, inv(t, y), inv(t, x)))
		same(t, "x and its inverse", mul(t, x, inv(t, x)), of(0, 0, 0))
		same(t, "the inverse of the inverse", inv(t, inv(t, x)), mul(t, x, of(0, 0, 0)))
	}
}

// P5.2: Mul, where one of its numbers has a term too many, and where it just has not.
func TestMulOfManyTerms(t *testing.T) {
	a := spread(t, 150, 0)
	one := num.Of(1)
	high := good(power(t, num.Of(1000)).Sub(a))(t)
	for _, count := range []int{150, 151} {
		b := spread(t, count, 2)
		var both, top, apart num.N // what is not allowed is of no use
		if count == 150 {
			both = plus(t, a, b)
			top = plus(t, power(t, plus(t, power(t, num.Of(1000)), b)), one)
			apart = plus(t, power(t, plus(t, b, a.Neg())), one)
		}
		spaced := plus(t, power(t, a), power(t, b))
		for _, x := range []struct {
			what          string
			x, y, product baum.E
		}{
			{"M", baum.E{M: a}, baum.E{M: b}, baum.E{M: both}},
			{"q, without U", baum.E{M: a}, baum.E{V: b}, baum.E{M: a}},
			{"q, with y.U", baum.E{M: a}, baum.E{U: one, V: b}, baum.E{U: one, V: both, M: a}},
			{"q, with x.U", baum.E{U: one, M: a}, baum.E{V: b}, baum.E{U: one, M: a}},
			{"x.V - r", baum.E{U: power(t, high), V: a}, baum.E{U: one, V: b.Neg()}, baum.E{U: top, V: b.Neg()}},
			{"q - r", baum.E{U: one, V: b.Neg()}, baum.E{U: power(t, high), V: a}, baum.E{U: top, V: b.Neg()}},
			{"s / 2^l of x", baum.E{U: spaced}, baum.E{}, baum.E{U: apart, V: a}},
			{"s / 2^l of y", baum.E{}, baum.E{U: spaced}, baum.E{U: apart, V: a}},
			{"r + l of x", baum.E{U: power(t, a), V: b}, baum.E{}, baum.E{U: one, V: both}},
			{"r + l of y", baum.E{}, baum.E{U: power(t, a), V: b}, baum.E{U: one, V: both}},
			{"s", baum.E{U: a}, baum.E{U: b}, baum.E{U: both}},
		} {
			if count == 151 {
				refuses(baum.Mul(x.x, x.y))(t, x.what, api.ErrFull)
			} else {
				same(t, x.what, mul(t, x.x, x.y), x.product)
			}
		}
	}
}

// P5.2: what Mul does not name need not be allowed.
func TestMulWithoutNumbers(t *testing.T) {
	a, b := spread(t, 150, 0), spread(t, 151, 2)
	one := num.Of(1)
	refuses(a.Add(b))(t, "a + b", api.ErrFull)
	low := baum.E{U: one, V: b.Neg()}
	same(t, "x.V - r, without x.U", mul(t, baum.E{V: a}, low), low)
	same(t, "q - r, without y.U", mul(t, low, baum.E{V: a}), low)
	same(t, "r + l, without s", mul(t, baum.E{U: power(t, a), V: b}, baum.E{U: power(t, a).Neg(), V: b}), baum.E{})
	same(t, "x.V + y.M", mul(t, baum.E{U: one, V: a}, baum.E{M: b}), baum.E{U: one, V: a, M: b})
	same(t, "x.V, without x.U", mul(t, baum.E{V: a, M: one}, baum.E{U: one, V: b}), baum.E{U: one, V: plus(t, b, one), M: one})
}

// P5.2: sums and shifts of too much weight, of which just a part is left.
func TestMulOfMuchWeight(t *testing.T) {
	d := heavy(t, 1200, 1000)
	first, second := heavy(t, 600, 9000), heavy(t, 600, 20000)
	whole := plus(t, first, second)
	refuses(whole.Shift(d))(t, "the whole shifted", api.ErrFull)
	back := baum.E{U: good(first.Shift(d))(t).Neg()}
	rest := mul(t, baum.E{U: good(second.Shift(d))(t)}, baum.E{})
	same(t, "the rest alone", mul(t, baum.E{U: second, V: d}, baum.E{}), rest)
	refuses(baum.Mul(baum.E{U: whole, V: d}, back))(t, "x.U 2^(x.V - r)", api.ErrFull)
	refuses(baum.Mul(back, baum.E{U: whole, V: d}))(t, "y.U 2^(q - r)", api.ErrFull)
	// The sum of 2^n and 2^(n + 4) has two parts more than n, and is 17 if it is halved as often as it can be.
	four := num.Of(4)
	for _, weight := range []int{1998, 1999} {
		n := heavy(t, weight, 1000)
		x, y := baum.E{U: power(t, n)}, baum.E{U: power(t, plus(t, n, four))}
		if weight == 1999 {
			refuses(baum.Mul(x, y))(t, "s", api.ErrFull)
			refuses(baum.Mul(y, x))(t, "s", api.ErrFull)
		} else {
			same(t, "17 2^n", mul(t, x, y), baum.E{U: num.Of(17), V: n})
		}
		same(t, "where both are shifted", mul(t, baum.E{U: num.Of(1), V: n}, baum.E{U: num.Of(1), V: plus(t, n, four)}), baum.E{U: num.Of(17), V: n})
	}
}

// P5.2: numbers of the greatest height.
func TestMulOfGreatHeight(t *testing.T) {
	top := towerOf(t, api.MaxHeight-1, num.Of(1))
	highest := towerOf(t, api.MaxHeight, num.Of(0))
	if top.Height() != api.MaxHeight || highest.Cmp(top) != 0 {
		t.Fatalf("the height is %d", top.Height())
	}
	below := towerOf(t, api.MaxHeight-2, num.Of(1))
	a := of(1, 0, 0)
	same(t, "just allowed", mul(t, a, baum.E{U: num.Of(1), V: below}), baum.E{U: plus(t, top, num.Of(1))})
	refuses(baum.Mul(a, baum.E{U: num.Of(1), V: top}))(t, "2^top + 1", api.ErrFull)
	refuses(baum.Mul(baum.E{U: num.Of(1), V: top}, a))(t, "2^top + 1", api.ErrFull)
	same(t, "without a sum", mul(t, baum.E{M: top}, a), baum.E{U: num.Of(1), V: top, M: top})
	same(t, "halved", mul(t, baum.E{U: top}, baum.E{}), baum.E{U: num.Of(1), V: below})
}

// P5.2: Inv, where one of its numbers has a term too many, and where it just has not.
func TestInvOfManyTerms(t *testing.T) {
	a := spread(t, 150, 0)
	one := num.Of(1)
	high := good(power(t, num.Of(1000)).Sub(a))(t)
	for _, count := range []int{150, 151} {
		b := spread(t, count, 2)
		var both, apart num.N
		if count == 150 {
			both = plus(t, a, b)
			apart = plus(t, power(t, plus(t, b, a.Neg())), one).Neg()
		}
		for _, x := range []struct {
			what       string
			x, inverse baum.E
		}{
			{"x.V - x.M", baum.E{U: one, V: b, M: a.Neg()}, baum.E{U: one.Neg(), V: both, M: a}},
			{"x.V - x.M, which comes to less with l", baum.E{U: power(t, high), V: b, M: a.Neg()}, baum.E{U: one.Neg(), V: plus(t, power(t, num.Of(1000)), b), M: a}},
			{"-x.U / 2^l", baum.E{U: plus(t, power(t, a), power(t, b))}, baum.E{U: apart, V: a}},
			{"(x.V - x.M) + l", baum.E{U: power(t, a), V: b}, baum.E{U: one.Neg(), V: both}},
		} {
			if count == 151 {
				refuses(baum.Inv(x.x))(t, x.what, api.ErrFull)
			} else {
				same(t, x.what, inv(t, x.x), x.inverse)
			}
		}
		same(t, "without U", inv(t, baum.E{V: b, M: a.Neg()}), baum.E{M: a})
	}
}
