package rest_test

import (
	"math"
	"math/big"
	"math/rand"
	"testing"

	"sandreckoner/api"
	"sandreckoner/num"
	"sandreckoner/rest"
)

// deep is 3^19: it leads to more moduli than most others, since 2 runs through all remainders by it that 3 does not divide.
const deep = 1162261467

// moduli are the ends of their range, and numbers of all kinds: primes, powers of two and of others, and products.
func moduli(seed int64) []int64 {
	list := []int64{1, 2, 3, 4, 6, 7, 8, 9, 10, 12, 60, 97, 360, 1000, 1 << 16, 1<<16 + 1, 46337 * 46337, 1e9, deep, 3 << 29, 1<<31 - 2, 1<<31 - 1, api.MaxMod}
	r := rand.New(rand.NewSource(seed))
	for range 20 {
		list = append(list, 1+r.Int63n(api.MaxMod))
	}
	return list
}

// P2.1: numbers that can be written out, by all kinds of moduli.
func TestRemOfWritten(t *testing.T) {
	for _, n := range written(1) {
		x := fromBig(t, n)
		for _, m := range moduli(2) {
			want := new(big.Int).Mod(n, big.NewInt(m)).Int64()
			if r, err := rest.Rem(x, m); err != api.OK || r != want {
				t.Fatalf("Rem of %v by %d: %d, error %d, not %d", n, m, r, err, want)
			}
		}
	}
	for _, n := range []int64{math.MaxInt64, math.MinInt64, math.MinInt64 + 1} {
		for _, m := range moduli(3) {
			want := new(big.Int).Mod(big.NewInt(n), big.NewInt(m)).Int64()
			if r := rem(t, num.Of(n), m); r != want {
				t.Errorf("Rem of %d by %d: %d, not %d", n, m, r, want)
			}
		}
	}
}

// P2.1: powers of two by all small moduli, through a circle of powers and more.
func TestRemOfPowers(t *testing.T) {
	for e := int64(60); e < 700; e += 1 + e/70 {
		x := power(t, num.Of(e))
		n := bigPower(int(e))
		for m := int64(1); m <= 300; m++ {
			want := new(big.Int).Mod(n, big.NewInt(m)).Int64()
			if r := rem(t, x, m); r != want {
				t.Fatalf("Rem of 2^%d by %d: %d, not %d", e, m, r, want)
			}
		}
	}
}

// P2.1: numbers that cannot be written out.
func TestRemOfTowers(t *testing.T) {
	for i, x := range towers(t, 4, 150) {
		for m := int64(1); m <= 1100; m += 1 + m/12 {
			if r, want := rem(t, x, m), slowRem(x, m); r != want {
				t.Fatalf("Rem of number %d by %d: %d, not %d", i, m, r, want)
			}
		}
		for _, m := range []int64{65536, 59049, 99991, 100000} {
			if r, want := rem(t, x, m), slowRem(x, m); r != want {
				t.Fatalf("Rem of number %d by %d: %d, not %d", i, m, r, want)
			}
		}
	}
}

// P2.1: great moduli, where the remainders of the exponents are known to be enough: by 2^31 - 1, the powers of two come again behind 31, by 3^19 behind 2 * 3^18.
func TestRemByGreatModuli(t *testing.T) {
	raise := func(e, m int64) int64 {
		return new(big.Int).Exp(big.NewInt(2), big.NewInt(e), big.NewInt(m)).Int64()
	}
	for i, x := range towers(t, 5, 120) {
		x = absolute(x)
		p, err := num.Of(1).Shift(x)
		if err != api.OK {
			continue
		}
		if r, want := rem(t, p, 1<<31-1), raise(slowRem(x, 31), 1<<31-1); r != want {
			t.Errorf("2 to the power of number %d by 2^31 - 1: %d, not %d", i, r, want)
		}
		if r, want := rem(t, p, deep), raise(rem(t, x, deep/3*2), deep); r != want {
			t.Errorf("2 to the power of number %d by 3^19: %d, not %d", i, r, want)
		}
		if n, ok := x.Int(); ok && n < 31 {
			continue
		}
		if r := rem(t, p, api.MaxMod); r != 0 {
			t.Errorf("2 to the power of number %d by 2^31: %d", i, r)
		}
		if r, want := rem(t, plus(t, p, -1), api.MaxMod), int64(api.MaxMod-1); r != want {
			t.Errorf("2 to the power of number %d, less 1, by 2^31: %d", i, r)
		}
	}
}

// P2.1, T3: remainders of sums and products are those of the remainders, and those by a divisor of m those of the remainder by m.
func TestRemLaws(t *testing.T) {
	numbers := towers(t, 6, 80)
	r := rand.New(rand.NewSource(7))
	for range 300 {
		x, y := numbers[r.Intn(len(numbers))], numbers[r.Intn(len(numbers))]
		m := 1 + r.Int63n(api.MaxMod)
		a, b := rem(t, x, m), rem(t, y, m)
		if s := rem(t, good(x.Add(y))(t), m); s != (a+b)%m {
			t.Fatalf("by %d: %d and %d, but the sum %d", m, a, b, s)
		}
		if p, err := x.Mul(y); err == api.OK && rem(t, p, m) != a*b%m {
			t.Fatalf("by %d: %d and %d, but the product %d", m, a, b, rem(t, p, m))
		}
		d := 1 + r.Int63n(30000)
		if a := rem(t, x, d*60000); a%d != rem(t, x, d) {
			t.Fatalf("by %d: %d, but %d by %d", d, rem(t, x, d), a, d*60000)
		}
	}
}

// P2.1: the document's examples, and some more of which the remainder is known.
func TestRemExamples(t *testing.T) {
	hundred := power(t, num.Of(100))
	great := power(t, hundred)
	tower := towerOf(t, api.MaxHeight-1, num.Of(1))
	for _, x := range []struct {
		what    string
		x       num.N
		m, want int64
	}{
		{"2^(2^100) by 7", great, 7, 2},
		{"-1 by 10", num.Of(-1), 10, 9},
		{"5 by 1", num.Of(5), 1, 0},
		{"-5 by 1", num.Of(-5), 1, 0},
		{"2^(2^100) by 1", great, 1, 0},
		{"2^(2^65536) by 1000", power(t, power(t, num.Of(65536))), 1000, 736},
		{"a tower by 1000", tower, 1000, 736},
		{"-2^(2^100) by 7", great.Neg(), 7, 5},
		{"-2^(2^100) by 2^31", great.Neg(), api.MaxMod, 0},
		{"1 - 2^(2^100) by 2^31", plus(t, great.Neg(), 1), api.MaxMod, 1},
		{"-1 by 2^31", num.Of(-1), api.MaxMod, api.MaxMod - 1},
		{"2^31 by 2^31", num.Of(api.MaxMod), api.MaxMod, 0},
		{"2^100 - 2^31 + 5 by 2^31", plus(t, hundred, 5-api.MaxMod), api.MaxMod, 5},
		{"2^100 + 2^30 by 2^31", plus(t, hundred, 1<<30), api.MaxMod, 1 << 30},
		{"0 by 2^31", num.Of(0), api.MaxMod, 0},
	} {
		if r := rem(t, x.x, x.m); r != x.want {
			t.Errorf("%s: %d, not %d", x.what, r, x.want)
		}
	}
}

// P2.1: moduli that are none.
func TestRemErrors(t *testing.T) {
	for _, x := range []num.N{num.Of(0), num.Of(5), num.Of(-5), power(t, power(t, num.Of(100)))} {
		for _, m := range []int64{0, -1, -7, math.MinInt64, api.MaxMod + 1, math.MaxInt64} {
			refuses(rest.Rem(x, m))(t, "such a modulus", api.ErrArg)
		}
	}
}
