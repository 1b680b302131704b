package turn_test

import (
	"math"
	"math/big"
	"math/rand"
	"slices"
	"testing"

	"sandreckoner/api"
	"sandreckoner/num"
	"sandreckoner/turn"
)

// slowSequence returns so many numbers of a sequence.
func slowSequence(factors, first []int, count, m int) []int {
	var list []int
	for i := range count {
		sum := new(big.Int)
		if i < len(first) {
			sum.SetInt64(int64(first[i]))
		} else {
			for j, factor := range factors {
				sum.Add(sum, new(big.Int).Mul(big.NewInt(int64(factor)), big.NewInt(int64(list[i-1-j]))))
			}
		}
		list = append(list, int(sum.Mod(sum, big.NewInt(int64(m))).Int64()))
	}
	return list
}

// anyInts returns so many ints.
func anyInts(r *rand.Rand, count int) []int {
	var list []int
	for range count {
		list = append(list, anyInt(r))
	}
	return list
}

// recur returns a number of a sequence that there has to be, and checks that the arguments stay as they are.
func recur(t *testing.T, factors, first []int, n num.N, m int) int {
	t.Helper()
	keptFactors, keptFirst := slices.Clone(factors), slices.Clone(first)
	x := good(turn.Recur(factors, first, n, m))(t)
	if !slices.Equal(factors, keptFactors) || !slices.Equal(first, keptFirst) {
		t.Error("the arguments have changed")
	}
	return x
}

// P4.4: sequences, number by number.
func TestRecur(t *testing.T) {
	r := rand.New(rand.NewSource(61))
	for range 300 {
		k, m := 1+r.Intn(api.MaxState), 1+r.Intn(api.MaxTurnMod)
		factors, first := anyInts(r, k), anyInts(r, k)
		for n, want := range slowSequence(factors, first, 20, m) {
			if x := recur(t, factors, first, num.Of(int64(n)), m); x != want {
				t.Fatalf("%v, %v modulo %d at %d: %d, not %d", factors, first, m, n, x, want)
			}
		}
	}
}

// P4.4, T5: a sequence that begins at a later place, and great places.
func TestRecurAtGreatPlaces(t *testing.T) {
	r := rand.New(rand.NewSource(62))
	hundred := power(t, num.Of(100))
	great := power(t, hundred)
	places := []num.N{num.Of(1000), num.Of(math.MaxInt64), hundred, great, plus(t, great, -1), towerOf(t, 90, num.Of(3))}
	for range 60 {
		k, m := 1+r.Intn(api.MaxState), 1+r.Intn(api.MaxTurnMod)
		factors, first := anyInts(r, k), anyInts(r, k)
		for _, n := range places {
			// The numbers from n on are those of a sequence that begins there.
			var later []int
			for i := range k {
				later = append(later, recur(t, factors, first, plus(t, n, int64(i)), m))
			}
			for i, want := range slowSequence(factors, later, 8, m) {
				if x := recur(t, factors, first, plus(t, n, int64(i)), m); x != want {
					t.Fatalf("%v, %v modulo %d, %d behind a great place: %d, not %d", factors, first, m, i, x, want)
				}
			}
		}
	}
}

// P4.4, T3: b a^n for a single factor.
func TestRecurOfPowers(t *testing.T) {
	n := new(big.Int).Add(bigPower(300), big.NewInt(-5))
	place := fromBig(t, n)
	for m := 1; m <= api.MaxTurnMod; m++ {
		modulus := big.NewInt(int64(m))
		for a := -3; a < m; a++ {
			want := new(big.Int).Exp(new(big.Int).Mod(big.NewInt(int64(a)), modulus), n, modulus)
			want.Mod(want.Mul(want, big.NewInt(7)), modulus)
			if x := recur(t, []int{a}, []int{7}, place, m); int64(x) != want.Int64() {
				t.Fatalf("7 * %d^n modulo %d: %d, not %v", a, m, x, want)
			}
		}
	}
}

// P4.4: the document's examples, and first numbers.
func TestRecurExamples(t *testing.T) {
	hundred := power(t, num.Of(100))
	for _, x := range []struct {
		factors, first []int
		n              num.N
		m, want        int
	}{
		{[]int{1, 1}, []int{0, 1}, num.Of(10), 60, 55},
		{[]int{1, 1}, []int{0, 1}, num.Of(0), 60, 0},
		{[]int{1, 1}, []int{0, 1}, num.Of(1), 60, 1},
		{[]int{1, 1}, []int{0, 1}, power(t, hundred), 7, 0},
		{[]int{1, 1}, []int{0, 1}, plus(t, power(t, hundred), 10), 7, 6},
		{[]int{2}, []int{3}, hundred, 5, 3},
		{[]int{2}, []int{3}, plus(t, hundred, 1), 5, 1},
		{[]int{2}, []int{3}, num.Of(3), 5, 4},
		{[]int{1, 1, 1}, []int{5, -1, 2}, num.Of(0), 7, 5},
		{[]int{1, 1, 1}, []int{5, -1, 2}, num.Of(1), 7, 6},
		{[]int{1, 1, 1}, []int{5, -1, 2}, num.Of(2), 7, 2},
		{[]int{1, 10, 20}, []int{1, 2, 3}, num.Of(3), 60, 43}, // 3 + 10 * 2 + 20 * 1
		{[]int{-1, 0}, []int{1, 1}, num.Of(2), 60, 59},
		{[]int{0}, []int{8}, num.Of(0), 60, 8},
		{[]int{0}, []int{8}, num.Of(1), 60, 0},
		{[]int{0, 0, 0}, []int{1, 2, 3}, hundred, 60, 0},
		{[]int{3, 4}, []int{5, 6}, hundred, 1, 0},
		{[]int{math.MaxInt, math.MinInt, -1}, []int{math.MinInt, math.MaxInt, 1}, num.Of(3), 10, 9}, // 7 * 1 + 2 * 7 - 1 * 2 = 19
	} {
		if got := recur(t, x.factors, x.first, x.n, x.m); got != x.want {
			t.Errorf("%v, %v modulo %d: %d, not %d", x.factors, x.first, x.m, got, x.want)
		}
	}
}

// P4.4: numbers of factors that are refused, moduli out of range, and negative places.
func TestRecurErrors(t *testing.T) {
	great := power(t, power(t, num.Of(100)))
	one, two, three, four := []int{1}, []int{1, 2}, []int{1, 2, 3}, []int{1, 2, 3, 4}
	for _, x := range [][2][]int{
		{nil, nil}, {{}, {}}, {nil, {}}, {nil, one}, {one, nil}, {one, two}, {two, one}, {three, two}, {two, three}, {four, three}, {three, four}, {four, four}, {make([]int, 100), make([]int, 100)},
	} {
		for _, m := range []int{1, 7, api.MaxTurnMod, 0} {
			for _, n := range []num.N{num.Of(0), num.Of(1), great, num.Of(-1)} {
				refuses(turn.Recur(x[0], x[1], n, m))(t, "Recur with other numbers of factors", api.ErrArg)
			}
		}
	}
	for _, list := range [][]int{one, two, three} {
		for _, m := range []int{0, -1, -7, api.MaxTurnMod + 1, api.MaxMod, math.MaxInt, math.MinInt} {
			refuses(turn.Recur(list, list, num.Of(0), m))(t, "Recur by another modulus", api.ErrArg)
			refuses(turn.Recur(list, list, great, m))(t, "Recur by another modulus", api.ErrArg)
		}
		for _, n := range []num.N{num.Of(-1), num.Of(math.MinInt64), great.Neg()} {
			refuses(turn.Recur(list, list, n, 7))(t, "Recur at a negative place", api.ErrArg)
		}
	}
}
