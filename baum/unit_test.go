package baum_test

import (
	"strings"
	"testing"

	"sandreckoner/api"
	"sandreckoner/baum"
)

// expectUnit checks what Unit returns, and that Trace and Check say so, too.
func expectUnit(t *testing.T, word string, want bool) {
	t.Helper()
	if got, err := baum.Unit(word); err != api.OK || got != want {
		t.Errorf("Unit of %s: %t, error %d", word, got, err)
		return
	}
	steps, left, end, err := baum.Trace(word)
	if err != api.OK || (left == 0 && equal(end, baum.E{})) != want {
		t.Errorf("Trace of %s: %d left, %s, error %d", word, left, show(end), err)
	}
	expectCheck(t, word, steps, left, end)
}

// expectSame checks what Same returns.
func expectSame(t *testing.T, u, v string, want bool) {
	t.Helper()
	if got, err := baum.Same(u, v); err != api.OK || got != want {
		t.Errorf("Same of %s, %s: %t, error %d", u, v, got, err)
	}
	if got, err := baum.Same(v, u); err != api.OK || got != want {
		t.Errorf("Same of %s, %s: %t, error %d", v, u, got, err)
	}
}

// P5.6: the document's examples, and words that are alike.
func TestUnitExamples(t *testing.T) {
	for word, want := range map[string]bool{
		"": true, "aA": true, "bB": true, "Bb": true, "abBA": true, relator: true, inverse(relator): true,
		"baBabABA": false, "a": false, "A": false, "b": false, "B": false, "bBb": false, "baB": false, "aaAAa": false,
		"Bab": false, "bbaBB": false, "abAB": false, "BBAbb": false, "aabaBAbAB": true, "BabaBABbAbAB": false,
	} {
		expectUnit(t, word, want)
	}
	for _, x := range []struct {
		u, v string
		want bool
	}{
		{"", "", true}, {"baBabAB", "aa", true}, {"ab", "ba", false}, {"a", "A", false}, {"a", "", false}, {"b", "B", false}, {"b", "", false},
		{"baBa", "aabaB", true}, {"baBa", "abaB", false}, {"aB", "aB", true}, {"bAB", "bABaA", true},
		{"bABaabaB", "a", true}, {"baaB", "baBbaB", true}, {"baaB", "baBaA", false},
		// A half of a, as T a t, is not a, but a if it is there twice.
		{"bABabaB", "a", false}, {"bABabaBbABabaB", "a", true},
	} {
		expectSame(t, x.u, x.v, x.want)
	}
}

// P5.6: words of as many letters as there may be, of which Same looks at twice as many.
func TestUnitOfLongWords(t *testing.T) {
	long := tower(6)
	full := long + strings.Repeat("b", api.MaxWord-len(long))
	expectSame(t, full, full, true)
	expectSame(t, full[:len(full)-1], full, false)
	expectSame(t, full[:len(full)-1]+"a", full, false)
	expectSame(t, long+"a", "a"+long, true)
	expectSame(t, long+"b", "b"+long, false)
	expectSame(t, long, tower(5), false)
	expectSame(t, "b"+long+"B"+"baB", "baB"+"b"+long+"B", true)
	refuses(baum.Same(full+"a", full))(t, "401 letters", api.ErrForm)
	refuses(baum.Same(full, full+"a"))(t, "401 letters", api.ErrForm)
	refuses(baum.Unit(full+"a"))(t, "401 letters", api.ErrForm)
	s := newSampler(41)
	for range 60 {
		expectUnit(t, s.unit(api.MaxWord), true)
		u := s.unit(api.MaxWord)
		expectSame(t, u, s.unit(api.MaxWord), true)
		at := s.Intn(len(u) - 200)
		expectSame(t, u[:at], inverse(u[at:]), true)
	}
}

// P5.8, T6: towers of powers of two that are the same, and ones that are not.
func TestUnitOfTowers(t *testing.T) {
	for levels := range 5 {
		word := tower(levels)
		up := "b" + word + "B"
		next := tower(levels + 1)
		expectUnit(t, word, false)
		expectSame(t, up+"a", next+up, true)
		expectSame(t, up+"a", "a"+up, false)
		expectSame(t, next+"a", "a"+next, true)
		expectSame(t, next+word, word+next, true)
		expectSame(t, next, word, false)
		expectSame(t, word+word, "baB"+word+"bAB", true)
		expectSame(t, word, "baB"+word+"bAB", false)
		expectSame(t, "B"+up+"b", word, true)
	}
}

// reduced returns a word in which no letter stands beside its inverse.
func reduced(word string) string {
	var left []byte
	for _, letter := range []byte(word) {
		if last := len(left) - 1; last >= 0 && left[last]^32 == letter {
			left = left[:last]
		} else {
			left = append(left, letter)
		}
	}
	return string(left)
}

// relators returns the words that come of the relation when it is begun at any letter, or inverted.
func relators() []string {
	var list []string
	for i := range relator {
		turned := relator[i:] + relator[:i]
		list = append(list, turned, inverse(turned))
	}
	return list
}

// unitsOf returns the reduced words of so many letters, at most, that come of the word without letters when relators are put in, one after another, without a longer word in between.
func unitsOf(most int) map[string]bool {
	found := map[string]bool{"": true}
	for list := []string{""}; len(list) > 0; list = list[1:] {
		word := list[0]
		for at := range len(word) + 1 {
			for _, r := range relators() {
				next := reduced(word[:at] + r + word[at:])
				if len(next) <= most && !found[next] {
					found[next] = true
					list = append(list, next)
				}
			}
		}
	}
	return found
}

// eachReduced calls do for each reduced word of so many letters, at most.
func eachReduced(word string, most int, do func(word string)) {
	do(word)
	if len(word) == most {
		return
	}
	for _, letter := range "aAbB" {
		if next := word + string(letter); reduced(next) == next {
			eachReduced(next, most, do)
		}
	}
}

// P5.8, T6: the words that come of the relation are the unit, and of short words no others are.
func TestUnitsComeOfTheRelation(t *testing.T) {
	found := unitsOf(18)
	if len(found) < 4000 {
		t.Errorf("%d words", len(found))
	}
	for word := range found {
		expectUnit(t, word, true)
	}
	units := 0
	eachReduced("", 9, func(word string) {
		unit, err := baum.Unit(word)
		if err != api.OK || unit != found[word] {
			t.Errorf("Unit of %s: %t, error %d", word, unit, err)
		}
		if unit {
			units++
		}
	})
	if units != 1+len(relators()) {
		t.Errorf("%d units of up to 9 letters", units)
	}
}

// P5.8, T6: what is the unit can be put in anywhere, and changes nothing.
func TestUnitsChangeNothing(t *testing.T) {
	s := newSampler(42)
	units := 0
	for range 1500 {
		word, put := s.word(1+s.Intn(4)), s.unit(9+s.Intn(60))
		at := s.Intn(len(word) + 1)
		longer := word[:at] + put + word[at:]
		if len(longer) > api.MaxWord {
			continue
		}
		unit, err := baum.Unit(word)
		if err != api.OK {
			t.Fatalf("Unit of %s: error %d", word, err)
		}
		if unit {
			units++
		}
		expectUnit(t, longer, unit)
		expectSame(t, word, longer, true)
		_, left, end, _ := baum.Trace(word)
		_, leftLonger, endLonger, err := baum.Trace(longer)
		if err != api.OK || leftLonger != left || !equal(endLonger, end) {
			t.Errorf("%s and %s: %d and %d left, %s and %s", word, longer, left, leftLonger, show(end), show(endLonger))
		}
		turned := word[at:] + word[:at]
		expectUnit(t, turned, unit)
		expectUnit(t, inverse(word), unit)
	}
	if units < 50 {
		t.Errorf("%d units", units)
	}
}

// P5.6, P5.8: Same is an equality: it goes on from word to word, and through letters ahead and behind.
func TestSameIsEquality(t *testing.T) {
	s := newSampler(43)
	var words []string
	for len(words) < 60 {
		if word := s.word(s.Intn(4)); len(word) < 60 {
			words = append(words, word)
		}
	}
	for _, u := range words {
		for _, v := range words {
			same := good(baum.Same(u, v))(t)
			expectSame(t, u, v, same)
			expectSame(t, "b"+u, "b"+v, same)
			expectSame(t, u+"A", v+"A", same)
			if !same {
				continue
			}
			for _, w := range words {
				if good(baum.Same(u, w))(t) != good(baum.Same(v, w))(t) {
					t.Errorf("%s, %s and %s", u, v, w)
				}
			}
		}
	}
}
