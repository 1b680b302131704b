package baum_test

import (
	"strconv"
	"strings"
	"testing"

	"sandreckoner/api"
	"sandreckoner/baum"
	"sandreckoner/num"
)

// expectTrace checks all that Trace returns.
func expectTrace(t *testing.T, word string, steps []api.Pinch, left int, end baum.E) {
	t.Helper()
	got, gotLeft, gotEnd, err := baum.Trace(word)
	if err != api.OK || gotLeft != left || !equal(gotEnd, end) || !sameSteps(got, steps) {
		t.Errorf("Trace of %s: %v, %d, %s, error %d; not %v, %d, %s", word, got, gotLeft, show(gotEnd), err, steps, left, show(end))
	}
}

// P5.3, P5.4, P5.5: the document's examples, and where a pinch is and is none.
func TestTraceExamples(t *testing.T) {
	zero, one, minus := num.Of(0), num.Of(1), num.Of(-1)
	for _, x := range []struct {
		word  string
		steps []api.Pinch
		left  int
		end   baum.E
	}{
		{"", nil, 0, of(0, 0, 0)},
		{"aaaa", nil, 0, of(1, 2, 0)},
		{"AAA", nil, 0, of(-3, 0, 0)},
		{"aAAaA", nil, 0, of(-1, 0, 0)},
		{"ab", nil, 1, baum.E{}},
		{"Bab", nil, 2, baum.E{}},
		{"bb", nil, 2, baum.E{}},
		{"BaB", nil, 2, baum.E{}},
		{"bB", []api.Pinch{pinch(0, zero)}, 0, of(0, 0, 0)},
		{"Bb", []api.Pinch{pinch(0, zero)}, 0, of(0, 0, 0)},
		{"baB", []api.Pinch{pinch(0, one)}, 0, of(0, 0, 1)},
		{"baAB", []api.Pinch{pinch(0, zero)}, 0, of(0, 0, 0)},
		{"abAAAAAAB", []api.Pinch{pinch(0, num.Of(-6))}, 0, of(1, 0, -6)},
		{relator, []api.Pinch{pinch(0, one), pinch(0, minus)}, 0, of(0, 0, 0)},
		{"baBa", []api.Pinch{pinch(0, one)}, 0, of(1, 1, 1)},
		{"abaB", []api.Pinch{pinch(0, one)}, 0, of(1, 0, 1)},
		// b t B is no pinch, as t is no power of a; B a b is none, as a is no power of t.
		{"bbaBB", []api.Pinch{pinch(1, one)}, 2, baum.E{}},
		{"BbaBb", []api.Pinch{pinch(0, zero), pinch(0, zero)}, 0, of(1, 0, 0)},
		{"BbaaBaab", []api.Pinch{pinch(0, zero)}, 2, baum.E{}},
		// B t^6 b is a^6.
		{"BAbAB", []api.Pinch{pinch(1, minus)}, 1, baum.E{}},
		{"BbaaaaaaBb", []api.Pinch{pinch(0, zero), pinch(0, zero)}, 0, of(3, 1, 0)},
		{"BbaaBbaaaaBb", []api.Pinch{pinch(0, zero), pinch(0, zero), pinch(0, zero)}, 0, of(3, 1, 0)},
		// T a t is half of a, and T a a a a t two times a.
		{"bbABabaBB", []api.Pinch{pinch(1, minus), pinch(1, one)}, 2, baum.E{}},
		{"bbABaaaabaBB", []api.Pinch{pinch(1, minus), pinch(1, one), pinch(0, num.Of(2))}, 0, of(0, 0, 2)},
		// The one at the least place is made, also where it comes to be behind another one.
		{"bBbB", []api.Pinch{pinch(0, zero), pinch(0, zero)}, 0, of(0, 0, 0)},
		{"BbB", []api.Pinch{pinch(0, zero)}, 1, baum.E{}},
		{"bBBbbB", []api.Pinch{pinch(0, zero), pinch(0, zero), pinch(0, zero)}, 0, of(0, 0, 0)},
		{"BBbbaBb", []api.Pinch{pinch(1, zero), pinch(0, zero), pinch(0, zero)}, 0, of(1, 0, 0)},
		{"bbbBaBaB", []api.Pinch{pinch(2, zero), pinch(1, one)}, 2, baum.E{}},
	} {
		expectTrace(t, x.word, x.steps, x.left, x.end)
	}
}

// P5.3: texts that are no words, and those that are just long enough.
func TestWords(t *testing.T) {
	long := strings.Repeat("aA", api.MaxWord/2)
	expectTrace(t, long, nil, 0, of(0, 0, 0))
	expectTrace(t, strings.Repeat("b", api.MaxWord), nil, api.MaxWord, baum.E{})
	expectTrace(t, strings.Repeat("a", api.MaxWord), nil, 0, of(25, 4, 0))
	refused := []string{"c", "abc", "1", " ", "a b", "aé", "\x00", "\xff", "a\n", "Ab-", long + "a", long + "b", strings.Repeat("c", 10000), strings.Repeat("b", 1000000)}
	for c := range 256 {
		text := string([]byte{byte(c)})
		if !strings.Contains("aAbB", text) {
			refused = append(refused, text, "b"+text+"B", "ab"+text, text+"ab")
		}
	}
	for _, text := range refused {
		steps, left, end, err := baum.Trace(text)
		if err != api.ErrForm || len(steps) > 0 || left != 0 || !equal(end, baum.E{}) {
			t.Errorf("Trace of %q: %v, %d, %s, error %d", text, steps, left, show(end), err)
		}
		left, end, err = baum.Check(text, []api.Pinch{{At: -1}})
		if err != api.ErrForm || left != 0 || !equal(end, baum.E{}) {
			t.Errorf("Check of %q: %d, %s, error %d", text, left, show(end), err)
		}
		quoted := strconv.Quote(text)
		refuses(baum.Unit(text))(t, "Unit of "+quoted, api.ErrForm)
		refuses(baum.Same(text, "a"))(t, "Same of "+quoted+" and a", api.ErrForm)
		refuses(baum.Same("a", text))(t, "Same of a and "+quoted, api.ErrForm)
		refuses(baum.Same(text, text))(t, "Same of "+quoted+" twice", api.ErrForm)
	}
}

// P5.4, P5.5, T6: words whose numbers are written out.
func TestTraceWrittenOut(t *testing.T) {
	s := newSampler(21)
	least := func(int) int { return 0 }
	made, left, words := 0, 0, 0
	for range 6000 {
		word := s.word(1 + s.Intn(6))
		if len(word) > api.MaxWord {
			continue
		}
		w, steps, ok := slowRead(word).reduce(t, least)
		if !ok {
			continue
		}
		count, end := w.left(t)
		expectTrace(t, word, steps, count, end)
		words++
		made += len(steps)
		left += count
	}
	if words < 4000 || made < 2*words || left < words/4 {
		t.Errorf("%d words, %d steps, %d letters that are left", words, made, left)
	}
}

// P5.5, T6: words for towers, of which the numbers are as they have to be.
func TestTraceOfTowers(t *testing.T) {
	exponent := num.Of(0)
	for levels := range 7 {
		word := tower(levels)
		steps, left, end, err := baum.Trace(word)
		want := baum.E{U: num.Of(1), V: exponent}
		if err != api.OK || left != 0 || !equal(end, want) {
			t.Fatalf("the tower of %d letters: %d left, %s, error %d", len(word), left, show(end), err)
		}
		if levels > 0 && string(steps[len(steps)-1].Power) != string(exponent.Neg().Bytes()) {
			t.Errorf("the last step of the tower of %d letters: %v", len(word), steps[len(steps)-1])
		}
		left, end, err = baum.Check(word, steps)
		if err != api.OK || left != 0 || !equal(end, want) {
			t.Errorf("Check of the tower of %d letters: %d left, %s, error %d", len(word), left, show(end), err)
		}
		if len(word)+2 <= api.MaxWord {
			expectTrace(t, "b"+word+"B", append(moved(steps, 1), pinch(0, power(t, exponent))), 0, baum.E{M: power(t, exponent)})
		}
		exponent = power(t, exponent)
	}
}

// moved returns steps at places that are so many letters further.
func moved(steps []api.Pinch, by int) []api.Pinch {
	var list []api.Pinch
	for _, s := range steps {
		list = append(list, api.Pinch{At: s.At + by, Power: s.Power})
	}
	return list
}
