package baum_test

import (
	"bytes"
	"slices"
	"testing"

	"sandreckoner/api"
	"sandreckoner/baum"
	"sandreckoner/num"
)

// P1: calls with the zero values of all arguments.
func TestZeroValues(t *testing.T) {
	same(t, "Mul", mul(t, baum.E{}, baum.E{}), of(0, 0, 0))
	same(t, "Inv", inv(t, baum.E{}), of(0, 0, 0))
	expectTrace(t, "", nil, 0, of(0, 0, 0))
	expectCheck(t, "", nil, 0, of(0, 0, 0))
	expectUnit(t, "", true)
	expectSame(t, "", "", true)
	refusesSteps(t, "", []api.Pinch{{}})
	refusesSteps(t, "b", []api.Pinch{{}})
	refusesSteps(t, "Bb", make([]api.Pinch, 100000))
}

// P3, P4: no call changes its arguments, results are the caller's own, and calls tell the same again.
func TestCallsStandAlone(t *testing.T) {
	word := "a" + tower(4) + "B"
	steps, left, end, _ := baum.Trace(word)
	kept := slices.Clone(steps)
	for i := range kept {
		kept[i].Power = slices.Clone(steps[i].Power)
	}
	expectCheck(t, word, steps, left, end)
	baum.Check(word+"b", steps)
	baum.Trace("b" + word)
	if !sameSteps(steps, kept) {
		t.Error("Check has changed its steps")
	}
	for i := range steps {
		steps[i].At = -1
		clear(steps[i].Power)
		_ = append(steps[i].Power, 1, 2, 3)
		if i+1 < len(steps) && !sameSteps(steps[i+1:], kept[i+1:]) {
			t.Error("steps share memory")
		}
	}
	expectTrace(t, word, kept, left, end)
	expectCheck(t, word, kept, left, end)
}

// P3: the elements that are multiplied stay.
func TestElementsStay(t *testing.T) {
	k := towerOf(t, 4, num.Of(5))
	x := baum.E{U: plus(t, k, num.Of(3)), V: k.Neg(), M: power(t, k)}
	y := baum.E{U: k, V: k, M: k}
	list := []num.N{x.U, x.V, x.M, y.U, y.V, y.M}
	var before [][]byte
	for _, n := range list {
		before = append(before, n.Bytes())
	}
	first, second := mul(t, x, y), inv(t, x)
	for range 3 {
		same(t, "the product again", mul(t, x, y), first)
		same(t, "the inverse again", inv(t, x), second)
		mul(t, y, x)
		inv(t, y)
	}
	for i, n := range list {
		if !bytes.Equal(n.Bytes(), before[i]) {
			t.Errorf("number %d has changed", i)
		}
	}
}

// P1: steps of any kind, with words of any kind, end with an error or without one.
func TestAnySteps(t *testing.T) {
	s := newSampler(51)
	powers := [][]byte{nil, {0}, num.Of(0).Bytes(), num.Of(0).Bytes(), num.Of(1).Bytes(), num.Of(-1).Bytes(), num.Of(2).Bytes()}
	made := 0
	for range 20000 {
		word := s.word(2)
		var steps []api.Pinch
		for range s.Intn(3) {
			steps = append(steps, api.Pinch{At: s.Intn(4) - 1, Power: powers[s.Intn(len(powers))]})
		}
		outer := len(slowRead(word).outer)
		left, end, err := baum.Check(word, steps)
		switch {
		case err == api.OK && left == outer-2*len(steps) && (left == 0 || equal(end, baum.E{})):
			made += len(steps)
		case err == api.ErrArg && left == 0 && equal(end, baum.E{}):
		default:
			t.Fatalf("Check of %s with %v: %d, %s, error %d", word, steps, left, show(end), err)
		}
	}
	if made < 500 {
		t.Errorf("%d steps", made)
	}
}

// P7: the values of the numbers, and how many paths lead through their parts, have no bearing on the time.
func TestTimeOfTangledElements(t *testing.T) {
	// Each number has the two ahead of it as its exponents: the paths through forty of them are millions.
	k, l := power(t, num.Of(100)), power(t, num.Of(200))
	for range 40 {
		k, l = l, plus(t, power(t, l), power(t, k))
	}
	x, y := baum.E{U: plus(t, l, num.Of(1)), V: k.Neg(), M: l}, baum.E{U: k, V: l, M: k.Neg()}
	xy := mul(t, x, y)
	same(t, "the inverse of x y", inv(t, xy), mul(t, inv(t, y), inv(t, x)))
	same(t, "x y and the inverse of y", mul(t, xy, inv(t, y)), mul(t, x, baum.E{}))
	same(t, "the inverse of x, and x y", mul(t, inv(t, x), xy), mul(t, y, baum.E{}))
}

// P7: elements of as many terms as there may be.
func TestTimeOfHeavyElements(t *testing.T) {
	var list []num.Term
	for i := range int64(api.MaxTerms) {
		list = append(list, num.Term{Minus: i%3 == 0, Exp: plus(t, spread(t, 20, i), num.Of(1<<40*i))})
	}
	u := good(num.Sum(list))(t)
	if len(u.Terms()) != api.MaxTerms {
		t.Fatalf("%d terms", len(u.Terms()))
	}
	x := baum.E{U: u, V: spread(t, 100, 3), M: spread(t, 100, 1)}
	for range 20 {
		same(t, "x and its inverse", mul(t, x, inv(t, x)), baum.E{})
		same(t, "the inverse of the inverse", inv(t, inv(t, x)), mul(t, x, baum.E{}))
	}
}
