package rest_test

import (
	"math"
	"math/big"
	"testing"

	"sandreckoner/api"
	"sandreckoner/num"
	"sandreckoner/rest"
)

// P2.4: numbers that can be written out.
func TestLenAndLowOfWritten(t *testing.T) {
	for _, n := range written(21) {
		x := fromBig(t, n)
		if size := good(rest.Len(x))(t); size.Cmp(num.Of(int64(n.BitLen()))) != 0 {
			t.Fatalf("Len of %v is not %d", n, n.BitLen())
		}
		if n.Sign() == 0 {
			refuses(rest.Low(x))(t, "Low of 0", api.ErrNone)
			continue
		}
		if low := good(rest.Low(x))(t); low.Cmp(num.Of(int64(n.TrailingZeroBits()))) != 0 {
			t.Fatalf("Low of %v is not %d", n, n.TrailingZeroBits())
		}
	}
}

// P2.4, T3: of numbers that cannot be written out, 2^(n-1) <= |x| < 2^n for the length n, and x / 2^l is odd for the number l of Low.
func TestLenAndLowOfTowers(t *testing.T) {
	for i, x := range towers(t, 22, 300) {
		if x.Sign() == 0 {
			continue
		}
		n := good(rest.Len(x))(t)
		if size := absolute(x); power(t, n).Cmp(size) <= 0 || power(t, plus(t, n, -1)).Cmp(size) > 0 {
			t.Fatalf("Len of number %d", i)
		}
		l := good(rest.Low(x))(t)
		if half, err := x.Shift(l.Neg()); err != api.OK || rem(t, half, 2) != 1 {
			t.Fatalf("Low of number %d", i)
		}
	}
}

// P2.4: the document's examples, powers of two, and one less.
func TestLenAndLowExamples(t *testing.T) {
	hundred := power(t, num.Of(100))
	great := power(t, hundred)
	tower := towerOf(t, api.MaxHeight-1, num.Of(1))
	top := tower.Terms()[0].Exp
	zero := num.Of(0)
	for _, x := range []struct {
		what         string
		x, size, low num.N
	}{
		{"1", num.Of(1), num.Of(1), zero},
		{"-1", num.Of(-1), num.Of(1), zero},
		{"-8", num.Of(-8), num.Of(4), num.Of(3)},
		{"7", num.Of(7), num.Of(3), zero},
		{"12", num.Of(12), num.Of(4), num.Of(2)},
		{"-2^63", num.Of(math.MinInt64), num.Of(64), num.Of(63)},
		{"2^63 - 1", num.Of(math.MaxInt64), num.Of(63), zero},
		{"2^(2^100) - 1", plus(t, great, -1), hundred, zero},
		{"2^(2^100)", great, plus(t, hundred, 1), hundred},
		{"2^(2^100) + 1", plus(t, great, 1), plus(t, hundred, 1), zero},
		{"-2^(2^100)", great.Neg(), plus(t, hundred, 1), hundred},
		{"1 - 2^(2^100)", plus(t, great.Neg(), 1), hundred, zero},
		{"2^(2^100) - 2^50", less(t, great, power(t, num.Of(50))), hundred, num.Of(50)},
		{"a tower", tower, plus(t, top, 1), top},
		{"a tower, less 1", plus(t, tower, -1), top, zero},
	} {
		same(t, "Len of "+x.what, good(rest.Len(x.x))(t), x.size)
		same(t, "Low of "+x.what, good(rest.Low(x.x))(t), x.low)
	}
	same(t, "Len of 0", good(rest.Len(zero))(t), zero)
	refuses(rest.Low(zero))(t, "Low of 0", api.ErrNone)
}

// P2.4, P2.5, P6: lengths of just the most terms that are allowed, and of one more, which leave the digits as they are.
func TestLenOfMostTerms(t *testing.T) {
	for _, terms := range []int{api.MaxTerms - 1, api.MaxTerms} {
		e := spread(t, terms, 2, 2)
		x := power(t, e)
		for _, y := range []num.N{x, x.Neg(), plus(t, x, 1), plus(t, x, -1).Neg(), plus(t, x, -1)} {
			n, err := rest.Len(y)
			switch {
			case absolute(y).Cmp(x) < 0:
				same(t, "Len of one less", good(n, err)(t), e)
			case terms == api.MaxTerms:
				refuses(n, err)(t, "Len of a term more", api.ErrFull)
			default:
				same(t, "Len", good(n, err)(t), plus(t, e, 1))
			}
			for k := 1; k <= 60; k++ {
				want := int64(1) << (k - 1)
				if absolute(y).Cmp(x) < 0 {
					want = 1<<k - 1
				}
				if digits := good(rest.Lead(y, k))(t); digits != want {
					t.Fatalf("Lead for %d: %d, not %d", k, digits, want)
				}
			}
		}
		same(t, "Low", good(rest.Low(x))(t), e)
	}
}

// P2.5: the first digits of a number whose exponents differ by a number that is not allowed.
func TestLeadOfFarTerms(t *testing.T) {
	e, f := spread(t, api.MaxTerms, 300, 3), power(t, num.Of(10))
	refuses(e.Sub(f))(t, "the distance of the exponents", api.ErrFull)
	x, y := power(t, e), power(t, f)
	for k := 1; k <= 60; k++ {
		if digits := good(rest.Lead(good(x.Add(y))(t), k))(t); digits != 1<<(k-1) {
			t.Errorf("Lead of x + y for %d: %d", k, digits)
		}
		if digits := good(rest.Lead(less(t, y, x), k))(t); digits != 1<<k-1 {
			t.Errorf("Lead of y - x for %d: %d", k, digits)
		}
	}
}

// P2.5: numbers that can be written out.
func TestLeadAndLastOfWritten(t *testing.T) {
	for _, n := range written(23) {
		x := fromBig(t, n)
		size := new(big.Int).Abs(n)
		for k := 1; k <= 60; k++ {
			want := new(big.Int).Rsh(size, uint(max(0, n.BitLen()-k))).Int64()
			if digits := good(rest.Lead(x, k))(t); digits != want {
				t.Fatalf("Lead of %v for %d: %d, not %d", n, k, digits, want)
			}
		}
		m := big.NewInt(1)
		for k := 1; k <= 9; k++ {
			m.Mul(m, big.NewInt(10))
			want := new(big.Int).Mod(size, m).Int64()
			if digits := good(rest.Last(x, k))(t); digits != want {
				t.Fatalf("Last of %v for %d: %d, not %d", n, k, digits, want)
			}
		}
	}
}

// P2.5: terms at every distance behind the first one, just where the digits end and beyond, of both signs.
func TestLeadAtTheEnd(t *testing.T) {
	for _, first := range []int{63, 64, 130} {
		for second := 2; second <= first; second++ {
			for third := second + 2; third <= first+2; third++ {
				for signs := range 4 {
					n := bigPower(first)
					for i, distance := range []int{second, third} {
						if distance > first {
							continue
						}
						if signs>>i&1 == 0 {
							n.Add(n, bigPower(first-distance))
						} else {
							n.Sub(n, bigPower(first-distance))
						}
					}
					checkLead(t, n)
				}
			}
		}
	}
}

// checkLead compares the first 1, 59 and 60 digits with those that are written out.
func checkLead(t *testing.T, n *big.Int) {
	t.Helper()
	x := fromBig(t, n)
	for _, k := range []int{1, 59, 60} {
		want := new(big.Int).Rsh(n, uint(n.BitLen()-k)).Int64()
		if digits := good(rest.Lead(x, k))(t); digits != want {
			t.Fatalf("Lead of %v for %d: %d, not %d", n, k, digits, want)
		}
	}
}

// P2.5, T3: of numbers that cannot be written out, the first digits are those of a floor, the last ones those of a remainder.
func TestLeadAndLastOfTowers(t *testing.T) {
	for i, x := range towers(t, 24, 300) {
		size := absolute(x)
		n := good(rest.Len(x))(t)
		for _, k := range []int{1, 2, 3, 31, 59, 60} {
			want := size
			if by := plus(t, n, int64(-k)); by.Sign() > 0 {
				want = good(rest.Floor(size, by))(t)
			}
			same(t, "Lead", num.Of(good(rest.Lead(x, k))(t)), want)
		}
		m := int64(1)
		for k := 1; k <= 9; k++ {
			m *= 10
			if digits := good(rest.Last(x, k))(t); digits != rem(t, size, m) {
				t.Fatalf("Last of number %d for %d: %d", i, k, digits)
			}
		}
	}
}

// P2.5: the document's examples, and digits that are 0.
func TestLeadAndLastExamples(t *testing.T) {
	hundred := power(t, num.Of(100))
	great := power(t, hundred)
	tower := towerOf(t, api.MaxHeight-1, num.Of(1))
	for _, x := range []struct {
		what string
		call func(num.N, int) (int64, api.Errno)
		x    num.N
		k    int
		want int64
	}{
		{"5", rest.Lead, num.Of(5), 3, 5},
		{"5", rest.Lead, num.Of(5), 2, 2},
		{"5", rest.Lead, num.Of(5), 1, 1},
		{"5", rest.Lead, num.Of(5), 60, 5},
		{"-5", rest.Lead, num.Of(-5), 2, 2},
		{"2^60 - 1", rest.Lead, num.Of(1<<60 - 1), 60, 1<<60 - 1},
		{"2^60", rest.Lead, num.Of(1 << 60), 60, 1 << 59},
		{"-2^63", rest.Lead, num.Of(math.MinInt64), 60, 1 << 59},
		{"2^100 + 2^99", rest.Lead, good(hundred.Add(power(t, num.Of(99))))(t), 2, 3},
		{"1 - 2^(2^100)", rest.Lead, plus(t, great.Neg(), 1), 4, 15},
		{"2^(2^100) - 1", rest.Lead, plus(t, great, -1), 60, 1<<60 - 1},
		{"2^(2^100)", rest.Lead, great, 60, 1 << 59},
		{"a tower", rest.Lead, tower, 1, 1},
		{"a tower, less another one", rest.Lead, less(t, tower, great), 60, 1<<60 - 1},
		{"0", rest.Lead, num.Of(0), 1, 0},
		{"0", rest.Lead, num.Of(0), 60, 0},
		{"2^100", rest.Last, hundred, 3, 376},
		{"-2^100", rest.Last, hundred.Neg(), 3, 376},
		{"-7", rest.Last, num.Of(-7), 1, 7},
		{"0", rest.Last, num.Of(0), 1, 0},
		{"0", rest.Last, num.Of(0), 9, 0},
		{"-2^63", rest.Last, num.Of(math.MinInt64), 9, 854775808},
		{"2^63 - 1", rest.Last, num.Of(math.MaxInt64), 9, 854775807},
		{"a tower", rest.Last, tower, 3, 736},
		{"a tower with a minus sign", rest.Last, tower.Neg(), 3, 736},
	} {
		if digits, err := x.call(x.x, x.k); err != api.OK || digits != x.want {
			t.Errorf("%s for %d: %d, error %d, not %d", x.what, x.k, digits, err, x.want)
		}
	}
}

// P2.5: numbers of digits that are out of range.
func TestLeadAndLastErrors(t *testing.T) {
	for _, x := range []num.N{num.Of(0), num.Of(1), num.Of(-5), power(t, power(t, num.Of(100)))} {
		for _, k := range []int{0, -1, 61, 62, 64, math.MaxInt, math.MinInt} {
			refuses(rest.Lead(x, k))(t, "Lead", api.ErrArg)
		}
		for _, k := range []int{0, -1, 10, 11, 60, math.MaxInt, math.MinInt} {
			refuses(rest.Last(x, k))(t, "Last", api.ErrArg)
		}
	}
}
