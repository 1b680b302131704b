package baum_test

import (
	"math"
	"slices"
	"testing"

	"sandreckoner/api"
	"sandreckoner/baum"
	"sandreckoner/num"
)

// expectCheck checks what Check returns for steps that can be made.
func expectCheck(t *testing.T, word string, steps []api.Pinch, left int, end baum.E) {
	t.Helper()
	got, gotEnd, err := baum.Check(word, steps)
	if err != api.OK || got != left || !equal(gotEnd, end) {
		t.Errorf("Check of %s with %v: %d, %s, error %d; not %d, %s", word, steps, got, show(gotEnd), err, left, show(end))
	}
}

// refusesSteps checks that Check refuses steps, and returns nothing beside the error.
func refusesSteps(t *testing.T, word string, steps []api.Pinch) {
	t.Helper()
	left, end, err := baum.Check(word, steps)
	if err != api.ErrArg || left != 0 || !equal(end, baum.E{}) {
		t.Errorf("Check of %s with %v: %d, %s, error %d", word, steps, left, show(end), err)
	}
}

// P5.7: the document's examples, other orders, and fewer steps than there could be.
func TestCheckExamples(t *testing.T) {
	zero, one, minus := num.Of(0), num.Of(1), num.Of(-1)
	for _, x := range []struct {
		word  string
		steps []api.Pinch
		left  int
		end   baum.E
	}{
		{relator, nil, 4, baum.E{}},
		{relator, []api.Pinch{pinch(0, one)}, 2, baum.E{}},
		{relator, []api.Pinch{pinch(2, minus)}, 2, baum.E{}},
		{relator, []api.Pinch{pinch(0, one), pinch(0, minus)}, 0, of(0, 0, 0)},
		{relator, []api.Pinch{pinch(2, minus), pinch(0, one)}, 0, of(0, 0, 0)},
		{"bBbB", []api.Pinch{pinch(1, zero), pinch(0, zero)}, 0, of(0, 0, 0)},
		{"bBbB", []api.Pinch{pinch(2, zero), pinch(0, zero)}, 0, of(0, 0, 0)},
		{"bBbB", []api.Pinch{pinch(2, zero)}, 2, baum.E{}},
		{"", nil, 0, of(0, 0, 0)},
		{"", []api.Pinch{}, 0, of(0, 0, 0)},
		{"aaa", nil, 0, of(3, 0, 0)},
		{"Bab", nil, 2, baum.E{}},
		// Here the inner pinches are made first: B t^6 b is a^6.
		{"BbaaaaaaBb", []api.Pinch{pinch(1, num.Of(6)), pinch(0, num.Of(6))}, 0, of(3, 1, 0)},
		{"aBbAAABba", []api.Pinch{pinch(1, num.Of(-3)), pinch(0, num.Of(-3))}, 0, of(-1, 0, 0)},
		{"BbaBAbABb", []api.Pinch{pinch(1, one)}, 4, baum.E{}},
	} {
		expectCheck(t, x.word, x.steps, x.left, x.end)
	}
}

// P5.7: places where there is no pinch, also behind steps that can be made, and powers that are not those that stand there.
func TestCheckRefuses(t *testing.T) {
	zero, one, minus := num.Of(0), num.Of(1), num.Of(-1)
	refusesSteps(t, relator, []api.Pinch{pinch(1, one)})
	for _, at := range []int{-1, 1, 3, 4, 5, math.MaxInt, math.MaxInt - 1, math.MinInt} {
		for _, k := range []num.N{zero, one, minus} {
			refusesSteps(t, relator, []api.Pinch{pinch(at, k)})
			refusesSteps(t, relator, []api.Pinch{pinch(0, one), pinch(0, minus), pinch(at, k)})
		}
	}
	for _, word := range []string{"", "a", "b", "B", "bb", "BB", "Bab", "BAb", "bab", "aba", "bbaBB"} {
		for _, k := range []num.N{zero, one, minus} {
			refusesSteps(t, word, []api.Pinch{pinch(0, k)})
		}
	}
	// t, and a half of a, between b and B.
	refusesSteps(t, "bbaBB", []api.Pinch{pinch(1, one), pinch(0, zero)})
	refusesSteps(t, "bbABabaBB", []api.Pinch{pinch(1, minus), pinch(1, one), pinch(0, zero)})
	right := num.Of(1).Bytes()
	for _, b := range [][]byte{nil, {}, zero.Bytes(), minus.Bytes(), num.Of(2).Bytes(), right[:len(right)-1], append(slices.Clone(right), 0), {0, 2, 0, 0, 0, 1, 0, 0, 1}} {
		refusesSteps(t, "baB", []api.Pinch{{At: 0, Power: b}})
		refusesSteps(t, relator, []api.Pinch{{At: 0, Power: b}, pinch(0, minus)})
		refusesSteps(t, relator, []api.Pinch{pinch(2, minus), {At: 0, Power: b}})
	}
	refusesSteps(t, "bB", []api.Pinch{{}})
	refusesSteps(t, "bB", []api.Pinch{pinch(0, zero), pinch(0, zero)})
	refusesSteps(t, "bB", []api.Pinch{pinch(0, one)})
	refusesSteps(t, "aBb", []api.Pinch{pinch(0, one)})
}

// P5.7, P5.8: words whose numbers are written out, with pinches in any order: what is left hangs neither on the order nor on the way of finding them.
func TestCheckInAnyOrder(t *testing.T) {
	s := newSampler(31)
	words, different := 0, 0
	for range 4000 {
		word := s.word(2 + s.Intn(4))
		if len(word) > api.MaxWord {
			continue
		}
		w, steps, ok := slowRead(word).reduce(t, s.Intn)
		if !ok {
			continue
		}
		left, end := w.left(t)
		expectCheck(t, word, steps, left, end)
		traced, leftTraced, endTraced, err := baum.Trace(word)
		if err != api.OK || leftTraced != left || !equal(endTraced, end) || len(traced) != len(steps) {
			t.Fatalf("Trace of %s: %d left, %s, error %d", word, leftTraced, show(endTraced), err)
		}
		words++
		if !sameSteps(steps, traced) {
			different++
		}
	}
	if words < 2000 || different < words/3 {
		t.Errorf("%d words, %d orders that are not that of Trace", words, different)
	}
}

// P5.5, P5.7, T6: what Trace returns can be checked, step by step, and nothing else beside it at the same places.
func TestCheckOfTraces(t *testing.T) {
	s := newSampler(32)
	for range 300 {
		word := s.word(3+s.Intn(3)) + s.unit(60)
		if len(word) > api.MaxWord {
			continue
		}
		steps, left, end, err := baum.Trace(word)
		if err != api.OK {
			t.Fatalf("Trace of %s: error %d", word, err)
		}
		expectCheck(t, word, steps, left, end)
		outer := left + 2*len(steps)
		for i := range steps {
			expectCheck(t, word, steps[:i], outer-2*i, baum.E{})
		}
		for i, step := range steps {
			k := good(num.Load(step.Power))(t)
			wrong := slices.Clone(steps)
			for _, other := range []num.N{plus(t, k, num.Of(1)), plus(t, k, k, num.Of(-1)), power(t, power(t, num.Of(100)))} {
				if other.Cmp(k) != 0 {
					wrong[i].Power = other.Bytes()
					refusesSteps(t, word, wrong)
				}
			}
		}
	}
}

// P5.4, P5.7: powers of t that are towers, between B and b.
func TestCheckOfTowers(t *testing.T) {
	exponent := num.Of(0)
	for levels := range 7 {
		word := tower(levels)
		k := power(t, exponent)
		if len(word)+4 <= api.MaxWord {
			steps, _, _, _ := baum.Trace(word)
			around := append(moved(steps, 2), pinch(1, k), pinch(0, k))
			want := baum.E{U: num.Of(1), V: exponent}
			expectCheck(t, "Bb"+word+"Bb", around, 0, want)
			expectCheck(t, "Bb"+word+"Bb", around[:len(around)-1], 2, baum.E{})
			expectTrace(t, "Bb"+word+"Bb", append([]api.Pinch{pinch(0, num.Of(0))}, append(steps, pinch(0, num.Of(0)))...), 0, want)
			around[len(around)-1] = pinch(0, plus(t, k, num.Of(-1)))
			refusesSteps(t, "Bb"+word+"Bb", around)
		}
		exponent = k
	}
}
