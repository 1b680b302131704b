package higman_test

import (
	"strings"
	"testing"

	"sandreckoner/api"
	"sandreckoner/higman"
	"sandreckoner/num"
)

// P6.6: numbers of as many terms as the letters can make.
func TestManyTerms(t *testing.T) {
	word := strings.Repeat("aab", api.MaxWord/3)
	for times := range 4 {
		longest := turned(word, times)
		expectSame(t, longest, longest, true)
		expectSame(t, longest, inverse(longest), false)
		expectSame(t, longest+"a", inverse(longest+"c"), false)
	}
	conjugate := strings.Repeat("aab", 80) + strings.Repeat("A", 160)
	n := spread(t, 80, 2, 2)
	expectTrace(t, conjugate, nil, 1, nil)
	_, left, end, err := higman.Trace(turned(conjugate, 3))
	if err != api.OK || left != 0 || !samePowers(end, []api.Power{of('a', n)}) {
		t.Errorf("a to the power of 80 terms: %d, %v, error %d", left, end, err)
	}
	conjugate = strings.Repeat("aab", 39) + strings.Repeat("A", 78)
	power := good(num.Of(1).Shift(spread(t, 39, 2, 2)))(t)
	expectTrace(t, conjugate+"c"+inverse(conjugate), nil, 0, []api.Power{of('c', power)})
	steep := turned(conjugate+"c"+inverse(conjugate), 2)
	_, left, end, err = higman.Trace(steep)
	if err != api.OK || left != 0 || !samePowers(end, []api.Power{of('a', power)}) {
		t.Errorf("a to a power of two of 39 terms: %d, %v, error %d", left, end, err)
	}
}

// P6.6: long words, whose numbers are as great as conjugates of conjugates make them, have no error.
func TestNoOtherError(t *testing.T) {
	s := newSampler(61)
	words := 0
	for words < 400 {
		word := ""
		for len(word) < 150 {
			x := []string{tower(s.Intn(4)), strings.Repeat("aab", 1+s.Intn(12)), s.word(3), s.letter()}[s.Intn(4)]
			x = turned(x, 2*s.Intn(2))
			switch s.Intn(3) {
			case 0:
				word = x + word + inverse(x)
			case 1:
				word = word + x
			case 2:
				word = word + x + inverse(word)
			}
		}
		if len(word) > api.MaxWord {
			continue
		}
		words++
		list, left, end, err := higman.Trace(word)
		if err != api.OK {
			t.Fatalf("Trace of %s: error %d", word, err)
		}
		expectCheck(t, word, list, left, end)
		expectSame(t, word, word, true)
		good(higman.Same(word, inverse(word)))(t)
	}
}

// product returns a product of powers.
func product(letters string, exponents ...num.N) higman.Factor {
	return higman.Factor{Letters: letters, Exponents: exponents}
}

// isFull checks that Trace and, with these steps, Check end with ErrFull and nothing beside it, for products that no word is.
func isFull(t *testing.T, what string, steps []api.Handing, factors ...higman.Factor) {
	t.Helper()
	list, left, end, err := higman.TraceFactors(factors)
	if err != api.ErrFull || len(list) != 0 || left != 0 || len(end) != 0 {
		t.Errorf("Trace of %s: %v, %d, %v, error %d", what, list, left, end, err)
	}
	left, end, err = higman.CheckFactors(factors, steps)
	if err != api.ErrFull || left != 0 || len(end) != 0 {
		t.Errorf("Check of %s: %d, %v, error %d", what, left, end, err)
	}
}

// P2, P6: numbers that are not allowed, which are of no word, are told as ErrFull.
func TestFullNumbers(t *testing.T) {
	one := num.Of(1)
	x, y := spread(t, 150, 0, 4), spread(t, 151, 2, 4)
	if _, err := x.Add(y); err != api.ErrFull {
		t.Fatalf("x + y: error %d", err)
	}
	wide := good(good(one.Shift(y))(t).Add(one))(t)
	if _, err := wide.Shift(x); err != api.ErrFull {
		t.Fatalf("(2^y + 1) 2^x: error %d", err)
	}
	b, d := product("b", one), product("d", one)
	unit := product("dd", one, num.Of(-1))
	first := []api.Handing{{}}
	isFull(t, "a^x a^y", nil, product("aa", x, y))
	isFull(t, "a^x a^y d with a step", first, product("aa", x, y), d)
	isFull(t, "d^x d^y", nil, product("dd", x, y))
	isFull(t, "c^x c^y", nil, product("cc", x, y), d)
	isFull(t, "a^x b^w a^-x c", nil, product("abac", x, wide, x.Neg(), one), d)
	// The last power of b, as which a number that is not allowed would be left.
	isFull(t, "a^x b a^-x a^y", first, product("abaa", x, one, x.Neg(), y), d)
	isFull(t, "a^x b^w a^-x", first, product("aba", x, wide, x.Neg()), d)
	isFull(t, "a^x b^w a^-x alone", nil, product("aba", x, wide, x.Neg()))
	// What is handed over is put together to what is not allowed.
	isFull(t, "c^x d d^-1 c^y", []api.Handing{{At: 1}}, product("c", x), unit, product("c", y))
	isFull(t, "c^x d c^y", []api.Handing{{Powers: []api.Power{of('c', x)}}, {At: 1, Powers: []api.Power{of('c', y)}}}, product("c", x), d, product("c", y))
	isFull(t, "b d d^-1 b a^x d d^-1 a^y", []api.Handing{{At: 1}, {At: 1}}, b, unit, product("ba", one, x), unit, product("a", y))
	left, end, err := higman.CheckFactors([]higman.Factor{product("a", x), unit, product("b", y)}, []api.Handing{{At: 1}})
	if err != api.OK || left != 1 || len(end) != 0 {
		t.Errorf("a^x d d^-1 b^y: %d, %v, error %d", left, end, err)
	}
}
