package turn_test

import (
	"math"
	"math/big"
	"math/rand"
	"testing"

	"sandreckoner/api"
	"sandreckoner/num"
	"sandreckoner/turn"
)

// checkCycle compares a cycle with that of states that are calculated turn by turn.
func checkCycle(t *testing.T, turned api.Turn, start state, m int) {
	t.Helper()
	lead, length, err := turn.Cycle(turned, start, m)
	if err != api.OK {
		t.Fatalf("modulo %d: error %d", m, err)
	}
	wantLead, wantLength := slowCycle(slowFirst(start, m), func(s state) state { return slowTurn(turned, s, m) })
	if lead != wantLead || length != wantLength {
		t.Fatalf("%v from %v modulo %d: lead %d, length %d, not %d, %d", turned, start, m, lead, length, wantLead, wantLength)
	}
}

// P4.2, T5: all turns modulo 2, from all states.
func TestCyclesOfAllTurns(t *testing.T) {
	const entries = api.MaxState * (api.MaxState + 1)
	for digits := range 1 << entries {
		var turned api.Turn
		for i := range entries {
			turned.Rows[i/4][i%4] = digits >> i & 1
		}
		next := func(s int) int {
			sum := 0
			for i, row := range turned.Rows {
				digit := row[3]
				for j := range row[:3] {
					digit += row[j] * (s >> j & 1)
				}
				sum += digit % 2 << i
			}
			return sum
		}
		for s := range 1 << api.MaxState {
			wantLead, wantLength := slowCycle(s, next)
			lead, length, err := turn.Cycle(turned, state{s & 1, s >> 1 & 1, s >> 2}, 2)
			if lead != wantLead || length != wantLength || err != api.OK {
				t.Fatalf("%v from %b: lead %d, length %d, error %d, not %d, %d", turned, s, lead, length, err, wantLead, wantLength)
			}
		}
	}
}

// P4.1, P4.2: turns and starts of any ints, by all moduli.
func TestCyclesOfAnyTurns(t *testing.T) {
	r := rand.New(rand.NewSource(41))
	for m := 1; m <= api.MaxTurnMod; m++ {
		for range 6 {
			checkCycle(t, anyTurn(r), anyState(r), m)
		}
	}
}

// P4.1, P4.2: each factor, each constant and each number of the start counts at its place, and by its remainder alone.
func TestCycleByRemainders(t *testing.T) {
	r := rand.New(rand.NewSource(42))
	for range 100 {
		m := 2 + r.Intn(api.MaxTurnMod-1)
		turned, start := anyTurn(r), slowFirst(anyState(r), m)
		lead, length, _ := turn.Cycle(turned, start, m)
		for i := range turned.Rows {
			for j := range turned.Rows[i] {
				turned.Rows[i][j] = turned.Rows[i][j]%m - m*r.Intn(3)
			}
			start[i] += m * (r.Intn(5) - 2)
		}
		again, lengthAgain, err := turn.Cycle(turned, start, m)
		if again != lead || lengthAgain != length || err != api.OK {
			t.Fatalf("modulo %d: lead %d, length %d, error %d, not %d, %d", m, again, lengthAgain, err, lead, length)
		}
	}
}

// P4.2: the document's example, and cycles that are known.
func TestCycleExamples(t *testing.T) {
	rows := func(x, y, z [4]int) api.Turn {
		return api.Turn{Rows: [api.MaxState][api.MaxState + 1]int{x, y, z}}
	}
	round := rows([4]int{0, 1}, [4]int{0, 0, 1}, [4]int{1})
	count := rows([4]int{1, 0, 0, 1}, [4]int{}, [4]int{})
	for _, x := range []struct {
		what            string
		turned          api.Turn
		start           state
		m, lead, length int
	}{
		{"the Fibonacci numbers", fibonacci(), state{1}, 7, 0, 16},
		{"the Fibonacci numbers", fibonacci(), state{1}, 60, 0, 120},
		{"the Fibonacci numbers", fibonacci(), state{1, 0, 5}, 60, 1, 120},
		{"modulo 1", fibonacci(), state{5, -3, 8}, 1, 0, 1},
		{"modulo 1", rows([4]int{math.MinInt, 1, 2, 3}, [4]int{4, math.MaxInt, 6, 7}, [4]int{8, 9, 10, 11}), state{math.MinInt, math.MaxInt}, 1, 0, 1},
		{"no factors", api.Turn{}, state{1, 2, 3}, 60, 1, 1},
		{"no factors, from 0", api.Turn{}, state{60, -120, 0}, 60, 0, 1},
		{"a constant", rows([4]int{0, 0, 0, -1}, [4]int{0, 0, 0, 2}, [4]int{0, 0, 0, 3}), state{}, 60, 1, 1},
		{"doubled", doubling(), state{1}, 8, 3, 1},
		{"doubled", doubling(), state{1}, 48, 4, 2},
		{"doubled", doubling(), state{1}, 59, 0, 58},
		{"doubled", doubling(), state{1, 1}, 59, 1, 58},
		{"three that go round", round, state{1, 2, 3}, 60, 0, 3},
		{"three alike that go round", round, state{7, 67, -53}, 60, 0, 1},
		{"counted", count, state{0}, 60, 0, 60},
		{"counted", count, state{math.MinInt, 0, 60}, 60, 0, 60},
		{"counted", count, state{0, 0, 1}, 59, 1, 59},
	} {
		lead, length, err := turn.Cycle(x.turned, x.start, x.m)
		if lead != x.lead || length != x.length || err != api.OK {
			t.Errorf("%s modulo %d from %v: lead %d, length %d, error %d, not %d, %d", x.what, x.m, x.start, lead, length, err, x.lead, x.length)
		}
	}
}

// P4.2, P4.3: a cycle of all states modulo 59 but 0, 0, 0.
func TestLongestCycle(t *testing.T) {
	const m, all = 59, 59*59*59 - 1
	turned := api.Turn{Rows: [api.MaxState][api.MaxState + 1]int{{0, 1}, {0, 0, 1}, {2, 6}}}
	lead, length, err := turn.Cycle(turned, state{1}, m)
	if lead != 0 || length != all || err != api.OK {
		t.Fatalf("lead %d, length %d, error %d", lead, length, err)
	}
	start := state{3, 1, 4}
	for _, n := range []int64{0, 1, 58, all - 1, all, all + 1, 7*all + 100, math.MaxInt64} {
		want := matrixOf(turned, m).power(big.NewInt(n), m).of(start, m)
		if s := behind(t, turned, start, num.Of(n), m); s != want {
			t.Errorf("behind %d turns: %v, not %v", n, s, want)
		}
	}
}

// P4.2: moduli that are out of range.
func TestCycleErrors(t *testing.T) {
	for _, m := range []int{0, -1, -7, api.MaxTurnMod + 1, api.MaxMod, math.MaxInt, math.MinInt} {
		lead, length, err := turn.Cycle(fibonacci(), state{1}, m)
		if lead != 0 || length != 0 || err != api.ErrArg {
			t.Errorf("modulo %d: lead %d, length %d, error %d", m, lead, length, err)
		}
	}
	for _, m := range []int{1, api.MaxTurnMod} {
		if _, length, err := turn.Cycle(fibonacci(), state{1}, m); length < 1 || err != api.OK {
			t.Errorf("modulo %d: length %d, error %d", m, length, err)
		}
	}
}
