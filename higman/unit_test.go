package higman_test

import (
	"strings"
	"testing"

	"sandreckoner/api"
	"sandreckoner/higman"
)

// P6.5, T7: the document's examples.
func TestUnitExamples(t *testing.T) {
	for _, word := range append([]string{"", "aA", "Dd", "aabAABBBB", "cabABBC", "dcabABBCD", "aabAAcaaBAACCCCCCCCCCCCCCCC"}, relators...) {
		expectUnit(t, word, true)
		expectUnit(t, inverse(word), true)
	}
	for _, word := range []string{"a", "b", "c", "d", "A", "aC", "acac", "bb", "ab", "bd", "bdb", "bdBD", "abAB", "abABBd", "acAC", "cabAC", "aabAABBB", "aabAAcaaBAACCCCCCCCCCCCCCC"} {
		expectUnit(t, word, false)
		expectUnit(t, inverse(word), false)
	}
	expectSame(t, "aab", "bbbbaa", true)
	expectSame(t, "aabAA", "bbbb", true)
	expectSame(t, "ab", "ba", false)
	expectSame(t, "abAB", "b", true)
	expectSame(t, "cabAC", "cbbC", true)
	expectSame(t, "abABBd", "d", true)
	expectSame(t, "dac", "acd", false)
	expectSame(t, "ddaDD", "aaaa", true)
	expectSame(t, "ddddaDDDD", strings.Repeat("a", 16), true)
	expectSame(t, "ddddaDDDD", strings.Repeat("a", 15), false)
}

// P6.1, P6.5, T7: a relator or its inverse that is put in anywhere leaves what is the unit as it is.
func TestUnitWithRelators(t *testing.T) {
	s := newSampler(41)
	for range 150 {
		word := s.unit(api.MaxWord)
		expectUnit(t, word, true)
		at := s.Intn(len(word) + 1)
		expectUnit(t, word[at:]+word[:at], true)
		expectUnit(t, inverse(word), true)
		expectSame(t, word, s.unit(api.MaxWord), true)
		expectSame(t, word[:at], inverse(word[at:]), true)
		x := s.letter()
		expectUnit(t, word[:len(word)-1], false)
		expectSame(t, word, x, false)
	}
}

// relatorsTurned returns the words that come of the relations when they are begun at any letter, or inverted.
func relatorsTurned() []string {
	var list []string
	for _, r := range relators {
		for i := range r {
			word := r[i:] + r[:i]
			list = append(list, word, inverse(word))
		}
	}
	return list
}

// unitsOf returns the reduced words of so many letters, at most, that come of the word without letters when relators are put in, one after another, without a longer word in between.
func unitsOf(most int) map[string]bool {
	found := map[string]bool{"": true}
	for list := []string{""}; len(list) > 0; list = list[1:] {
		word := list[0]
		for at := range len(word) + 1 {
			for _, r := range relatorsTurned() {
				next := reduced(word[:at] + r + word[at:])
				if len(next) <= most && !found[next] {
					found[next] = true
					list = append(list, next)
				}
			}
		}
	}
	return found
}

// eachReduced calls do for each reduced word of so many letters, at most.
func eachReduced(word string, most int, do func(word string)) {
	do(word)
	if len(word) == most {
		return
	}
	for _, letter := range "abcdABCD" {
		if next := word + string(letter); reduced(next) == next {
			eachReduced(next, most, do)
		}
	}
}

// P6.5, T7: the words that come of the relations are the unit, and of short words no others are.
func TestUnitsComeOfTheRelations(t *testing.T) {
	found := unitsOf(10)
	if len(found) < 10000 {
		t.Errorf("%d words", len(found))
	}
	for word := range found {
		expectUnit(t, word, true)
	}
	units := 0
	eachReduced("", 6, func(word string) {
		unit, err := higman.Unit(word)
		if err != api.OK || unit != found[word] {
			t.Errorf("Unit of %s: %t, error %d", word, unit, err)
		}
		if unit {
			units++
		}
	})
	if units != 1+len(relatorsTurned()) {
		t.Errorf("%d units of up to 6 letters", units)
	}
}

// P6.5, T7: the relations are the same when each letter is taken as the next one, though the halves are others then: so are the units. When each is taken as the next but one, the halves change places: so the lengths are the same.
func TestTurnedWords(t *testing.T) {
	s := newSampler(42)
	units, factors := 0, 0
	for range 6000 {
		word := s.word(1 + s.Intn(5))
		switch s.Intn(3) {
		case 0:
			at := s.Intn(len(word) + 1)
			word = word[:at] + s.unit(5+s.Intn(40)) + inverse(word[:at]) + s.word(1)
		case 1:
			word = word + s.unit(30) + inverse(word)
		}
		if len(word) > api.MaxWord {
			continue
		}
		unit := good(higman.Unit(word))(t)
		for times := 1; times < 4; times++ {
			expectUnit(t, turned(word, times), unit)
		}
		length := good(higman.Length(word))(t)
		expectLength(t, turned(word, 2), length)
		expectLength(t, inverse(word), length)
		if unit {
			units++
		}
		factors += length
	}
	if units < 1000 || factors < 4000 {
		t.Errorf("%d units, %d factors", units, factors)
	}
}

// P6.4, P6.5: what is the unit can be put in anywhere, and changes neither the length nor the powers.
func TestUnitsChangeNothing(t *testing.T) {
	s := newSampler(43)
	for range 3000 {
		word, put := s.word(1+s.Intn(4)), s.unit(5+s.Intn(80))
		at := s.Intn(len(word) + 1)
		longer := word[:at] + put + word[at:]
		if len(longer) > api.MaxWord {
			continue
		}
		_, left, end, err := higman.Trace(word)
		_, leftLonger, endLonger, errLonger := higman.Trace(longer)
		if err != api.OK || errLonger != api.OK || leftLonger != left || !samePowers(endLonger, end) {
			t.Errorf("%s and %s: %d and %d left, %v and %v", word, longer, left, leftLonger, end, endLonger)
		}
		expectLength(t, word, left)
		expectLength(t, longer, left)
		expectSame(t, word, longer, true)
	}
}

// P6.5, T7: words of a and c alone, and words of b and d alone, are the unit just if nothing is left of them when a letter and its inverse are taken out again and again.
func TestFreeLetters(t *testing.T) {
	s := newSampler(44)
	units := 0
	for range 3000 {
		word := ""
		for range s.Intn(12) {
			word += string("aAcC"[s.Intn(4)])
		}
		expectLength(t, word, 0)
		for times := range 4 {
			expectUnit(t, turned(word, times), reduced(word) == "")
		}
		_, left, end, err := higman.Trace(word)
		count := 0
		for i, letter := range []byte(reduced(word)) {
			if i == 0 || reduced(word)[i-1]|32 != letter|32 {
				count++
			}
		}
		if err != api.OK || left != 0 || len(end) != count {
			t.Errorf("Trace of %s: %d left, %v, error %d", word, left, end, err)
		}
		if reduced(word) == "" {
			units++
		}
	}
	if units < 300 {
		t.Errorf("%d units", units)
	}
}

// P6.5: Same is an equality: it goes on from word to word, and through letters ahead and behind.
func TestSameIsEquality(t *testing.T) {
	s := newSampler(45)
	var words []string
	for len(words) < 40 {
		word := s.word(s.Intn(4))
		if len(word) > 60 {
			continue
		}
		at := s.Intn(len(word) + 1)
		words = append(words, word, word[:at]+s.unit(40)+word[at:])
	}
	for _, u := range words {
		for _, v := range words {
			same := good(higman.Same(u, v))(t)
			expectSame(t, u, v, same)
			expectUnit(t, u+inverse(v), same)
			for _, x := range []string{"a", "B", "c", "D"} {
				expectSame(t, x+u, x+v, same)
				expectSame(t, u+x, v+x, same)
			}
			if !same {
				continue
			}
			for _, w := range words {
				if good(higman.Same(u, w))(t) != good(higman.Same(v, w))(t) {
					t.Errorf("%s, %s and %s", u, v, w)
				}
			}
		}
	}
}
