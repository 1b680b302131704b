package turn_test

import (
	"bytes"
	"math"
	"math/big"
	"math/rand"
	"slices"
	"testing"

	"sandreckoner/api"
	"sandreckoner/num"
	"sandreckoner/turn"
)

// This file makes the turns and numbers of the tests, and calculates in other ways what the package calculates: turn by turn with whole numbers of any size, and with powers of matrices.

// state is a state, as the package is given it.
type state = [api.MaxState]int

// good returns the result of a call that has to succeed.
func good[T any](x T, err api.Errno) func(t *testing.T) T {
	return func(t *testing.T) T {
		t.Helper()
		if err != api.OK {
			t.Fatalf("error %d", err)
		}
		return x
	}
}

// refuses checks that a call ends with an error, and with the zero value.
func refuses[T comparable](x T, err api.Errno) func(t *testing.T, what string, want api.Errno) {
	return func(t *testing.T, what string, want api.Errno) {
		t.Helper()
		var zero T
		if err != want || x != zero {
			t.Errorf("%s: %v and error %d, not error %d and the zero value", what, x, err, want)
		}
	}
}

// same checks that two numbers are one.
func same(t *testing.T, what string, x, want num.N) {
	t.Helper()
	if x.Cmp(want) != 0 || !bytes.Equal(x.Bytes(), want.Bytes()) {
		t.Errorf("%s: %v, not %v", what, x.Bytes(), want.Bytes())
	}
}

// power returns 2 to the power of a number.
func power(t *testing.T, e num.N) num.N {
	t.Helper()
	return good(num.Of(1).Shift(e))(t)
}

// towerOf returns 2 to the power of 2 to the power of .. to the power of a number.
func towerOf(t *testing.T, levels int, top num.N) num.N {
	t.Helper()
	for range levels {
		top = power(t, top)
	}
	return top
}

// plus returns x + n.
func plus(t *testing.T, x num.N, n int64) num.N {
	t.Helper()
	return good(x.Add(num.Of(n)))(t)
}

// spread returns the sum of so many powers of two, whose exponents are multiples of a step, from the one that is given on.
func spread(t *testing.T, terms int, from, step int64) num.N {
	t.Helper()
	var list []num.Term
	for i := range int64(terms) {
		list = append(list, num.Term{Exp: num.Of(from + i*step)})
	}
	return good(num.Sum(list))(t)
}

// heavy returns a number of a weight of more than 100: each tower of seven levels above one of the numbers from the base on that its terms have as an exponent brings eight parts, one of eight levels brings one.
func heavy(t *testing.T, weight int, base int64) num.N {
	t.Helper()
	x := num.Of(0)
	for i := int64(0); x.Weight() <= weight-30; i++ {
		x = good(x.Add(power(t, towerOf(t, 7, num.Of(base+i)))))(t)
	}
	for i := int64(0); x.Weight() < weight; i++ {
		x = good(x.Add(power(t, towerOf(t, 8, num.Of(base+i)))))(t)
	}
	if x.Weight() != weight {
		t.Fatalf("the weight is %d", x.Weight())
	}
	return x
}

// fromBig returns the number that is written out.
func fromBig(t *testing.T, n *big.Int) num.N {
	t.Helper()
	x := num.Of(0)
	size := new(big.Int).Abs(n)
	for at := 0; at < size.BitLen(); at += 32 {
		digits := new(big.Int).Rsh(size, uint(at)).Uint64() & math.MaxUint32
		x = good(x.Add(good(num.Of(int64(digits)).Shift(num.Of(int64(at))))(t)))(t)
	}
	if n.Sign() < 0 {
		return x.Neg()
	}
	return x
}

// bigPower returns 2^e, written out.
func bigPower(e int) *big.Int {
	return new(big.Int).Lsh(big.NewInt(1), uint(e))
}

// doubling returns the turn that takes x0, x1, x2 to 2 x0, 0, 0.
func doubling() api.Turn {
	return api.Turn{Rows: [api.MaxState][api.MaxState + 1]int{{2}}}
}

// fibonacci returns the turn that takes x0, x1, x2 to x0 + x1, x0, 0.
func fibonacci() api.Turn {
	return api.Turn{Rows: [api.MaxState][api.MaxState + 1]int{{1, 1}, {1}}}
}

// anyInt returns an int: a small one, or one near the ends of all.
func anyInt(r *rand.Rand) int {
	switch r.Intn(4) {
	case 0:
		return r.Intn(5) - 2
	case 1:
		return math.MinInt + r.Intn(100)
	case 2:
		return math.MaxInt - r.Intn(100)
	}
	return r.Intn(400) - 200
}

// anyTurn returns a turn, often one with many zeros.
func anyTurn(r *rand.Rand) api.Turn {
	var t api.Turn
	zeros := r.Intn(4)
	for i := range t.Rows {
		for j := range t.Rows[i] {
			if r.Intn(4) >= zeros {
				t.Rows[i][j] = anyInt(r)
			}
		}
	}
	return t
}

// anyState returns three ints.
func anyState(r *rand.Rand) state {
	return state{anyInt(r), anyInt(r), anyInt(r)}
}

// slowFirst returns the first state of a start.
func slowFirst(start state, m int) state {
	for i, x := range start {
		start[i] = int(new(big.Int).Mod(big.NewInt(int64(x)), big.NewInt(int64(m))).Int64())
	}
	return start
}

// slowTurn returns the state behind one turn, calculated with the factors as they are.
func slowTurn(t api.Turn, s state, m int) state {
	var next state
	for i, row := range t.Rows {
		sum := big.NewInt(int64(row[api.MaxState]))
		for j, x := range s {
			sum.Add(sum, new(big.Int).Mul(big.NewInt(int64(row[j])), big.NewInt(int64(x))))
		}
		next[i] = int(sum.Mod(sum, big.NewInt(int64(m))).Int64())
	}
	return next
}

// slowCycle returns the lead and the length of the cycle of a turn: one state goes twice as fast as another one until they meet.
func slowCycle[S comparable](first S, turn func(S) S) (lead, length int) {
	slow, fast := turn(first), turn(turn(first))
	for slow != fast {
		slow, fast = turn(slow), turn(turn(fast))
	}
	for slow = first; slow != fast; lead++ {
		slow, fast = turn(slow), turn(fast)
	}
	for length = 1; turn(fast) != slow; length++ {
		fast = turn(fast)
	}
	return lead, length
}

// matrix is what a number of turns does to the numbers of a state and 1 behind them.
type matrix [api.MaxState + 1][api.MaxState + 1]int

// matrixOf returns the matrix of one turn.
func matrixOf(t api.Turn, m int) matrix {
	var a matrix
	for i, row := range t.Rows {
		for j, x := range row {
			a[i][j] = int(new(big.Int).Mod(big.NewInt(int64(x)), big.NewInt(int64(m))).Int64())
		}
	}
	a[api.MaxState][api.MaxState] = 1 % m
	return a
}

// times returns the matrix of the turns of b, then those of a.
func (a matrix) times(b matrix, m int) matrix {
	var c matrix
	for i := range c {
		for j := range c {
			for k := range c {
				c[i][j] += a[i][k] * b[k][j]
			}
			c[i][j] %= m
		}
	}
	return c
}

// of returns the state to which a matrix leads.
func (a matrix) of(start state, m int) state {
	var s state
	first := slowFirst(start, m)
	for i := range s {
		s[i] = a[i][api.MaxState]
		for j, x := range first {
			s[i] += a[i][j] * x
		}
		s[i] %= m
	}
	return s
}

// power returns the matrix of so many turns as n, which is not negative, says.
func (a matrix) power(n *big.Int, m int) matrix {
	var p matrix
	for i := range p {
		p[i][i] = 1 % m
	}
	for i := n.BitLen() - 1; i >= 0; i-- {
		p = p.times(p, m)
		if n.Bit(i) == 1 {
			p = a.times(p, m)
		}
	}
	return p
}

// tower returns the matrix of 2 to the power of 2 to the power of e turns, for an e that is at least 100: a matrix that is squared over and over comes again, too, and behind fewer squarings than 2^100.
func (a matrix) tower(e *big.Int, m int) matrix {
	square := func(a matrix) matrix { return a.times(a, m) }
	lead, length := slowCycle(a, square)
	squarings := new(big.Int).Exp(big.NewInt(2), e, big.NewInt(int64(length)))
	squarings.Sub(squarings, big.NewInt(int64(lead)))
	squarings.Mod(squarings, big.NewInt(int64(length)))
	for range int64(lead) + squarings.Int64() {
		a = square(a)
	}
	return a
}

// behind returns a state that there has to be.
func behind(t *testing.T, turned api.Turn, start state, times num.N, m int) state {
	t.Helper()
	before := times.Bytes()
	s := good(turn.After(turned, start, times, m))(t)
	if !slices.Equal(times.Bytes(), before) {
		t.Error("a number has changed")
	}
	for _, x := range s {
		if x < 0 || x >= m {
			t.Errorf("modulo %d: %v", m, s)
		}
	}
	return s
}
