package higman_test

import (
	"strings"
	"testing"

	"sandreckoner/api"
	"sandreckoner/higman"
	"sandreckoner/num"
)

// steps returns steps of powers of small numbers, as in "1 a1 c-2; 0": a place and its powers, and so on.
func steps(t *testing.T, text string) []api.Handing {
	t.Helper()
	var list []api.Handing
	for _, part := range strings.Split(text, ";") {
		if words := strings.Fields(part); len(words) > 0 {
			at := int(words[0][0] - '0')
			list = append(list, api.Handing{At: at, Powers: powers(t, strings.Join(words[1:], " "))})
		}
	}
	return list
}

// P6.7, P6.8: the document's examples, and what is handed over at the beginning, in the middle and at the end of a word.
func TestTraceExamples(t *testing.T) {
	for _, x := range []struct {
		word, steps string
		left        int
		end         string
	}{
		{"", "", 0, ""},
		{"abABB", "", 0, ""},
		{"ca", "", 0, "c1 a1"},
		{"b", "", 1, ""},
		{"d", "", 1, ""},
		{"bd", "", 2, ""},
		{"bdBD", "", 4, ""},
		{"dabABBD", "1", 0, ""},
		{"dacD", "1 a1 c1", 1, ""},
		{"aabAAcaaBAAd", "0 c16", 1, ""},
		// A factor that is the unit is a factor, too; a single one is not handed over.
		{"dD", "", 0, ""},
		{"bB", "", 0, ""},
		{"bBd", "0", 1, ""},
		{"dbB", "1", 1, ""},
		{"bBdD", "0", 0, ""},
		{"dDbB", "0", 0, ""},
		{"dDa", "0", 0, "a1"},
		{"adD", "0 a1", 0, "a1"},
		{"bdD", "1", 1, ""},
		{"dDb", "0", 1, ""},
		{"bdDb", "1", 1, ""},
		{"dbBd", "1", 1, ""},
		// The one at the least place is handed over, which may be one that was none of the free group before.
		{"dDbBdD", "0; 0", 0, ""},
		{"bdbBDB", "2; 1", 0, ""},
		{"bdbBdB", "2", 3, ""},
		{"dbdDBD", "2; 1", 0, ""},
		{"adDc", "0 a1; 0 a1", 0, "a1 c1"},
		{"acd", "0 a1 c1", 1, ""},
		{"dac", "1 a1 c1", 1, ""},
		{"bdac", "2 a1 c1", 2, ""},
		{"bdacb", "", 3, ""},
		{"daDb", "1 a1; 0 a2", 1, ""},
		{"bdaDb", "2 a1; 1 a2", 1, ""},
		{"bdaDAAbd", "2 a1; 1 a2", 2, ""},
		{"bdabABBDb", "2; 1", 1, ""},
		{"dcabACDb", "", 4, ""},
		{"dcabACDbdD", "4", 4, ""},
		{"dDbdDbdD", "0; 1; 1", 1, ""},
		// What is handed over is put together with what is beside it.
		{"ddaDD", "1 a1", 0, "a4"},
		{"dabbcBBD", "1 a1 c4", 1, ""},
		{"cdC", "0 c1; 1 c-1", 1, ""},
		{"cdCDD", "0 c1; 1 c-1", 0, ""},
		{"daDc", "1 a1; 0 a2", 0, "a2 c1"},
		{"DaadcDaad", "1 a2; 0 a1; 0 a1 c1; 1 a2", 0, "a1 c1 a1"},
	} {
		expectTrace(t, x.word, steps(t, x.steps), x.left, powers(t, x.end))
		expectCheck(t, x.word, steps(t, x.steps), x.left, powers(t, x.end))
	}
}

// P6.3, P6.4, P6.8, T7: words whose numbers are written out.
func TestTraceWrittenOut(t *testing.T) {
	s := newSampler(21)
	least := func(int) int { return 0 }
	words, made, left, ended := 0, 0, 0, 0
	for range 12000 {
		word := s.word(1 + s.Intn(5))
		if len(word) > api.MaxWord {
			continue
		}
		w, list, ok := slowReduce(t, word, least)
		if !ok {
			continue
		}
		count, end := w.left(t)
		expectTrace(t, word, list, count, end)
		words++
		made += len(list)
		left += count
		if len(end) > 0 {
			ended++
		}
	}
	if words < 11000 || made < 2*words || left < 2*words || ended < words/20 {
		t.Errorf("%d words, %d steps, %d factors that are left, %d words of the free group", words, made, left, ended)
	}
}

// P6.7: numbers that are told are not 0, and letters that follow each other are different.
func TestToldPowers(t *testing.T) {
	s := newSampler(22)
	check := func(word string, list []api.Power) {
		for i, p := range list {
			n, err := num.Load(p.N)
			if err != api.OK || n.Sign() == 0 || p.Letter != 'a' && p.Letter != 'c' || i > 0 && list[i-1].Letter == p.Letter {
				t.Errorf("Trace of %s: %v", word, list)
			}
		}
	}
	count := 0
	for range 3000 {
		word := s.word(1 + s.Intn(6))
		if len(word) > api.MaxWord {
			continue
		}
		list, left, end, err := higman.Trace(word)
		if err != api.OK || left != 0 && len(end) != 0 {
			t.Fatalf("Trace of %s: %d, %v, error %d", word, left, end, err)
		}
		check(word, end)
		for _, step := range list {
			check(word, step.Powers)
			count += len(step.Powers)
		}
	}
	if count < 3000 {
		t.Errorf("%d powers", count)
	}
}

// tower returns a word that is a power of a letter: of b to 2^4, of c to 2 to the power of that, of d to 2 to the power of that, and so on.
func tower(levels int) string {
	word := "aaaabAAAA"
	for level := range levels {
		word += string("cdab"[level%4]) + inverse(word)
	}
	return word
}

// P6.6, P6.8, T7: towers of powers of two.
func TestTraceOfTowers(t *testing.T) {
	for levels := range 6 {
		word := tower(levels)
		if len(word) > api.MaxWord {
			t.Fatalf("%d letters", len(word))
		}
		letter := "bcda"[levels%4]
		// The power that comes is 2 to the power of the one of the word that it is made of.
		n := towerOf(t, levels, 16)
		list, left, end, err := higman.Trace(word)
		if err != api.OK {
			t.Fatalf("the tower of %d levels: error %d", levels, err)
		}
		expectCheck(t, word, list, left, end)
		if letter == 'b' || letter == 'd' {
			if left != 1 || len(end) != 0 {
				t.Errorf("the tower of %d levels: %d, %v", levels, left, end)
			}
			continue
		}
		if left != 0 || !samePowers(end, []api.Power{of(letter, n)}) {
			t.Errorf("the tower of %d levels: %d, %v", levels, left, end)
		}
		next := string("bcda"[(levels+1)%4])
		up := word + next + inverse(word)
		if len(up) > api.MaxWord/2 {
			continue
		}
		expectSame(t, up+next, next+up, true)
		expectSame(t, word+up, up+word, false)
		expectSame(t, word+next, up+word, true)
	}
}
