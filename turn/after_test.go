package turn_test

import (
	"math"
	"math/big"
	"math/rand"
	"testing"

	"sandreckoner/api"
	"sandreckoner/num"
	"sandreckoner/turn"
)

// P4.1, P4.3, T5: states behind few turns, one after another.
func TestAfterTurnByTurn(t *testing.T) {
	r := rand.New(rand.NewSource(51))
	for range 80 {
		m := 1 + r.Intn(api.MaxTurnMod)
		turned, start := anyTurn(r), anyState(r)
		s := slowFirst(start, m)
		for n := range int64(25) {
			if got := behind(t, turned, start, num.Of(n), m); got != s {
				t.Fatalf("%v from %v modulo %d behind %d turns: %v, not %v", turned, start, m, n, got, s)
			}
			s = slowTurn(turned, s, m)
		}
	}
}

// P4.3: states ahead of the cycle, in it, and where it begins again.
func TestAfterRoundTheCycle(t *testing.T) {
	for _, x := range []struct {
		turned api.Turn
		start  state
		m      int
	}{
		{fibonacci(), state{1}, 7},
		{fibonacci(), state{1, 2, 3}, 10},
		{doubling(), state{1}, 32},
		{doubling(), state{5, 6, 7}, 48},
		{doubling(), state{1, 1, 1}, 60},
		{api.Turn{}, state{1, 2, 3}, 5},
		{fibonacci(), state{1}, 1},
	} {
		lead, length, _ := turn.Cycle(x.turned, x.start, x.m)
		s := slowFirst(x.start, x.m)
		for n := range lead + 3*length + 2 {
			if got := behind(t, x.turned, x.start, num.Of(int64(n)), x.m); got != s {
				t.Fatalf("%v modulo %d behind %d turns: %v, not %v", x.turned, x.m, n, got, s)
			}
			s = slowTurn(x.turned, s, x.m)
		}
	}
}

// P4.3, T3, T5: numbers of turns that can be written out.
func TestAfterWrittenTimes(t *testing.T) {
	r := rand.New(rand.NewSource(52))
	var list []*big.Int
	for _, e := range []int{31, 32, 62, 63, 64, 100, 1000} {
		for d := int64(-2); d <= 2; d++ {
			list = append(list, new(big.Int).Add(bigPower(e), big.NewInt(d)))
		}
	}
	for range 30 {
		list = append(list, new(big.Int).Rand(r, bigPower(1+r.Intn(250))))
	}
	for _, n := range list {
		times := fromBig(t, n)
		for range 4 {
			m := 1 + r.Intn(api.MaxTurnMod)
			turned, start := anyTurn(r), anyState(r)
			want := matrixOf(turned, m).power(n, m).of(start, m)
			if s := behind(t, turned, start, times, m); s != want {
				t.Fatalf("%v from %v modulo %d behind %v turns: %v, not %v", turned, start, m, n, s, want)
			}
		}
	}
}

// P4.3, T3, T5: numbers of turns that cannot be written out, by way of matrices that are squared over and over.
func TestAfterTowers(t *testing.T) {
	r := rand.New(rand.NewSource(53))
	hundred := power(t, num.Of(100))
	for _, x := range []struct {
		times num.N
		e     *big.Int // the number of turns is 2^(2^e)
	}{
		{power(t, hundred), big.NewInt(100)},
		{power(t, power(t, num.Of(1001))), big.NewInt(1001)},
		{power(t, power(t, hundred)), bigPower(100)},
		{power(t, power(t, power(t, num.Of(999)))), bigPower(999)},
		{towerOf(t, 6, num.Of(1)), bigPower(65536)},
	} {
		for range 40 {
			m := 1 + r.Intn(api.MaxTurnMod)
			turned, start := anyTurn(r), anyState(r)
			want := matrixOf(turned, m).tower(x.e, m).of(start, m)
			if s := behind(t, turned, start, x.times, m); s != want {
				t.Fatalf("%v from %v modulo %d: %v, not %v", turned, start, m, s, want)
			}
		}
	}
}

// P4.3, T5: so many turns, and then so many others, are as many as both; and one less is one turn ahead.
func TestAfterInTwoStretches(t *testing.T) {
	r := rand.New(rand.NewSource(54))
	hundred := power(t, num.Of(100))
	great := power(t, hundred)
	tower := towerOf(t, 50, num.Of(3))
	counts := []num.N{num.Of(0), num.Of(1), num.Of(1000), hundred, plus(t, hundred, -7), great, plus(t, great, -1), good(great.Sub(hundred))(t), tower, good(tower.Sub(great))(t)}
	for _, a := range counts {
		for _, b := range counts {
			m := 1 + r.Intn(api.MaxTurnMod)
			turned, start := anyTurn(r), anyState(r)
			both := good(a.Add(b))(t)
			want := behind(t, turned, start, both, m)
			if s := behind(t, turned, behind(t, turned, start, a, m), b, m); s != want {
				t.Fatalf("%v from %v modulo %d: %v, not %v", turned, start, m, s, want)
			}
			next := behind(t, turned, start, plus(t, both, 1), m)
			if s := slowTurn(turned, want, m); s != next {
				t.Fatalf("%v from %v modulo %d: %v, not %v", turned, start, m, next, s)
			}
		}
	}
}

// P4.3: the document's example, and starts as they are.
func TestAfterExamples(t *testing.T) {
	great := power(t, power(t, num.Of(100)))
	for _, x := range []struct {
		what   string
		turned api.Turn
		start  state
		times  num.N
		m      int
		want   state
	}{
		{"the Fibonacci numbers", fibonacci(), state{1}, great, 7, state{1}},
		{"the Fibonacci numbers", fibonacci(), state{1}, plus(t, great, 3), 7, state{3, 2}},
		{"no turns", fibonacci(), state{-7, 9, -1}, num.Of(0), 8, state{1, 1, 7}},
		{"no turns", api.Turn{}, state{math.MinInt, math.MaxInt, -60}, num.N{}, 60, state{52, 7, 0}},
		{"modulo 1", fibonacci(), state{1, 2, 3}, great, 1, state{}},
		{"no factors", api.Turn{}, state{1, 2, 3}, great, 60, state{}},
		{"doubled", doubling(), state{1}, num.Of(2), 8, state{4}},
		{"doubled", doubling(), state{1}, great, 8, state{}},
		{"doubled", doubling(), state{1}, great, 48, state{16}},
		{"doubled", doubling(), state{1}, plus(t, great, 1), 48, state{32}},
	} {
		if s := behind(t, x.turned, x.start, x.times, x.m); s != x.want {
			t.Errorf("%s modulo %d: %v, not %v", x.what, x.m, s, x.want)
		}
	}
}

// P4.3: moduli that are out of range, and negative numbers of turns.
func TestAfterErrors(t *testing.T) {
	great := power(t, power(t, num.Of(100)))
	for _, m := range []int{0, -1, -7, api.MaxTurnMod + 1, api.MaxMod, math.MaxInt, math.MinInt} {
		for _, times := range []num.N{num.Of(0), num.Of(1), num.Of(-1), great, great.Neg()} {
			refuses(turn.After(fibonacci(), state{1, 2, 3}, times, m))(t, "After by another modulus", api.ErrArg)
		}
	}
	for _, m := range []int{1, 7, api.MaxTurnMod} {
		for _, times := range []num.N{num.Of(-1), num.Of(math.MinInt64), great.Neg(), plus(t, great.Neg(), 1)} {
			refuses(turn.After(fibonacci(), state{1, 2, 3}, times, m))(t, "After a negative number of turns", api.ErrArg)
		}
	}
}
