package turn_test

import (
	"bytes"
	"math/rand"
	"testing"

	"sandreckoner/api"
	"sandreckoner/num"
	"sandreckoner/turn"
)

// P1: calls with the zero values of all arguments.
func TestZeroValues(t *testing.T) {
	refuses(turn.After(api.Turn{}, state{}, num.N{}, 0))(t, "After", api.ErrArg)
	if s := behind(t, api.Turn{}, state{}, num.N{}, 1); s != (state{}) {
		t.Errorf("After: %v", s)
	}
	if _, _, err := turn.Cycle(api.Turn{}, state{}, 0); err != api.ErrArg {
		t.Errorf("Cycle: error %d", err)
	}
	if lead, length, err := turn.Cycle(api.Turn{}, state{}, 1); lead != 0 || length != 1 || err != api.OK {
		t.Errorf("Cycle: lead %d, length %d, error %d", lead, length, err)
	}
	refuses(turn.Recur(nil, nil, num.N{}, 0))(t, "Recur", api.ErrArg)
	for _, double := range []bool{false, true} {
		same(t, "Grow", grown(t, double, num.N{}, num.N{}, num.N{}), num.Of(0))
	}
}

// P3, P4: no call changes its arguments, and calls tell the same again, whatever was called in between.
func TestCallsStandAlone(t *testing.T) {
	r := rand.New(rand.NewSource(81))
	great := power(t, power(t, num.Of(100)))
	x, c := plus(t, great, 7), great.Neg()
	keptX, keptC, keptTimes := x.Bytes(), c.Bytes(), great.Bytes()
	for range 50 {
		m := 1 + r.Intn(api.MaxTurnMod)
		turned, start := anyTurn(r), anyState(r)
		keptTurn, keptStart := turned, start
		s := behind(t, turned, start, great, m)
		lead, length, _ := turn.Cycle(turned, start, m)
		y, z := grown(t, false, x, c, great), grown(t, true, x, c, great)
		behind(t, anyTurn(r), anyState(r), great, m)
		turn.Cycle(turned, anyState(r), m)
		if again := behind(t, turned, start, great, m); again != s {
			t.Fatalf("%v, then %v", s, again)
		}
		if leadAgain, lengthAgain, _ := turn.Cycle(turned, start, m); leadAgain != lead || lengthAgain != length {
			t.Fatal("another cycle")
		}
		same(t, "Grow again", grown(t, false, x, c, great), y)
		same(t, "Grow again", grown(t, true, x, c, great), z)
		if turned != keptTurn || start != keptStart {
			t.Fatal("the turn or the start has changed")
		}
	}
	if !bytes.Equal(x.Bytes(), keptX) || !bytes.Equal(c.Bytes(), keptC) || !bytes.Equal(great.Bytes(), keptTimes) {
		t.Error("a number has changed")
	}
}

// P4.5: the time does not hang on the values of times and n, nor on how many paths lead through their parts.
func TestTimeOfTangledTimes(t *testing.T) {
	// Of ten numbers each one has eight of the ten ahead of it as its exponents.
	const width = 10
	var layer []num.N
	for i := range int64(width) {
		layer = append(layer, num.Of(1000+7*i))
	}
	for range 50 {
		var next []num.N
		for i := range width {
			var terms []num.Term
			for j := range width - 2 {
				terms = append(terms, num.Term{Exp: layer[(i+j)%width]})
			}
			next = append(next, good(num.Sum(terms))(t))
		}
		layer = next
	}
	times := layer[0]
	r := rand.New(rand.NewSource(82))
	for m := 1; m <= api.MaxTurnMod; m++ {
		turned, start := anyTurn(r), anyState(r)
		s := behind(t, turned, start, times, m)
		if next := behind(t, turned, start, plus(t, times, 1), m); next != slowTurn(turned, s, m) {
			t.Fatalf("modulo %d: %v, then %v", m, s, next)
		}
		a, b := recur(t, []int{1, 1}, []int{0, 1}, times, m), recur(t, []int{1, 1}, []int{0, 1}, plus(t, times, 1), m)
		if next := recur(t, []int{1, 1}, []int{0, 1}, plus(t, times, 2), m); next != (a+b)%m {
			t.Fatalf("modulo %d: %d, %d, then %d", m, a, b, next)
		}
	}
	one := num.Of(1)
	same(t, "2^(n + 1) - 1", grown(t, true, one, one, times), plus(t, power(t, plus(t, times, 1)), -1))
	same(t, "1 + 3 n", grown(t, false, one, num.Of(3), times), plus(t, good(times.Mul(num.Of(3)))(t), 1))
}

// P4.5, P4.6: numbers whose many terms have many terms as exponents, of which the parts are the same ones.
func TestTimeOfHeavyGrowth(t *testing.T) {
	r := rand.New(rand.NewSource(83))
	var pool []num.N
	for i := range int64(180) {
		pool = append(pool, num.Of(2*i))
	}
	for _, count := range []int{400, 150} {
		var next []num.N
		for range count {
			next = append(next, sumOf(t, r, pool))
		}
		pool = next
	}
	x := sumOf(t, r, pool)
	same(t, "x and -x", grown(t, true, x, x.Neg(), num.Of(2)), x)
	same(t, "x and 0", grown(t, true, x, num.Of(0), num.Of(2)), good(x.Mul(num.Of(4)))(t))
	same(t, "x and -x, x times", grown(t, true, x, x.Neg(), x), x)
	refuses(turn.Grow(true, x, x, x))(t, "x and x, x times", api.ErrFull)
}

// sumOf returns the sum of the powers of two of 150 of some exponents.
func sumOf(t *testing.T, r *rand.Rand, exponents []num.N) num.N {
	t.Helper()
	var terms []num.Term
	for _, place := range r.Perm(len(exponents))[:150] {
		terms = append(terms, num.Term{Exp: exponents[place]})
	}
	return good(num.Sum(terms))(t)
}
