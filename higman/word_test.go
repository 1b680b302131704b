package higman_test

import (
	"strconv"
	"strings"
	"testing"

	"sandreckoner/api"
	"sandreckoner/higman"
)

// refusesText checks that no call takes a text for a word, and that none returns anything beside the error.
func refusesText(t *testing.T, text string) {
	t.Helper()
	quoted := strconv.Quote(text[:min(len(text), 20)])
	if unit, err := higman.Unit(text); err != api.ErrForm || unit {
		t.Errorf("Unit of %s: %t, error %d", quoted, unit, err)
	}
	if n, err := higman.Length(text); err != api.ErrForm || n != 0 {
		t.Errorf("Length of %s: %d, error %d", quoted, n, err)
	}
	for _, pair := range [][2]string{{text, ""}, {"", text}, {text, text}, {text, "abcd"}, {"D", text}} {
		if same, err := higman.Same(pair[0], pair[1]); err != api.ErrForm || same {
			t.Errorf("Same with %s: %t, error %d", quoted, same, err)
		}
	}
	if steps, left, end, err := higman.Trace(text); err != api.ErrForm || len(steps) != 0 || left != 0 || len(end) != 0 {
		t.Errorf("Trace of %s: %v, %d, %v, error %d", quoted, steps, left, end, err)
	}
	for _, steps := range [][]api.Handing{nil, {{}}, {{At: -1}}} {
		if left, end, err := higman.Check(text, steps); err != api.ErrForm || left != 0 || len(end) != 0 {
			t.Errorf("Check of %s: %d, %v, error %d", quoted, left, end, err)
		}
	}
}

// P6.1: texts that are no words.
func TestNoWords(t *testing.T) {
	for c := range 256 {
		text := string([]byte{byte(c)})
		if strings.Contains("abcdABCD", text) {
			continue
		}
		refusesText(t, text)
		refusesText(t, "ab"+text+"cd")
		refusesText(t, text+"abABB")
		refusesText(t, "abABB"+text)
	}
	for _, text := range []string{"e", "ab c", "a\n", "t", "é", "а", "ａ", "𝐚", "a\x00", "\xff", "ab" + string(rune(0xfffd)), "a-1", "."} {
		refusesText(t, text)
	}
}

// P6.1: words have at most MaxWord letters.
func TestLongWords(t *testing.T) {
	for _, pair := range []string{"aA", "bB", "cC", "dD", "ac", "bd"} {
		long := strings.Repeat(pair, api.MaxWord/2)
		if unit, err := higman.Unit(long); err != api.OK || unit != (reduced(pair) == "") {
			t.Errorf("Unit of %d times %s: %t, error %d", api.MaxWord/2, pair, unit, err)
		}
		expectSame(t, long, long, true)
		for _, letter := range "abcdABCD" {
			refusesText(t, long+string(letter))
			refusesText(t, string(letter)+long)
		}
	}
	expectLength(t, strings.Repeat("bd", api.MaxWord/2), api.MaxWord)
	expectTrace(t, strings.Repeat("a", api.MaxWord), nil, 0, powers(t, "a400"))
	refusesText(t, strings.Repeat("a", 1<<20))
	refusesText(t, strings.Repeat("x", 1<<20))
}

// P6.4: the document's examples, and words whose factors have to be looked at closely.
func TestLengthExamples(t *testing.T) {
	for _, x := range []struct {
		words string
		want  int
	}{
		{" a cA acac aaaaaaaa bdDB bdabABBDB dD bB dDbB adDc abABB dabABBD", 0},
		{"b bb ab d bacB cabAC abABBd da dac acd dacD adC bdD dDb dDbdD", 1},
		{"bd db bbd bdd dDbd bdbB abd bad bacd", 2},
		{"bdb dbd bdacb bacdb bdddB", 3},
		{"bdBD bdbd dbacdb", 4},
	} {
		for _, word := range strings.Split(x.words, " ") {
			expectLength(t, word, x.want)
		}
	}
}

// P6.3: elements of a half that lie in the free group, as the powers that they are; in the other half c, d, a take the places of a, b, c.
func TestFreeGroup(t *testing.T) {
	for word, want := range map[string]string{
		"": "", "bB": "", "abABB": "", "aabAABBBB": "", "AbbaB": "",
		"a": "a1", "aaa": "a3", "cA": "c1 a-1", "cAcA": "c1 a-1 c1 a-1", "acCa": "a2", "acaA": "a1 c1", "caaCCA": "c1 a2 c-2 a-1",
		// Powers of b are put through what stands behind them: c^n is doubled by each b, and b^k is halved by each a.
		"bcB": "c2", "bbcBB": "c4", "bCB": "c-2", "Bccb": "c1", "BBCCCCCCCCbb": "c-2",
		"bbaB": "a1", "bABB": "a-1", "abbABBBB": "", "bbbbaaB": "a2", "BBBBaab": "a2",
		"abcB": "a1 c2", "abbcBB": "a1 c4", "aBccb": "a1 c1", "BBaccb": "a1 c1", "AbcB": "a-1 c2", "bAcBB": "a-1 c4",
		"cbbaB": "c1 a1", "cbbaccB": "c1 a1 c4", "acbACBB": "a1 c1 a-1 c-4", "abAcaBA": "c4", "aabAAcBBBB": "c16", "aabAAcaaBAA": "c16",
	} {
		expectTrace(t, word, nil, 0, powers(t, want))
		other := turned(word, 2)
		_, left, end, err := higman.Trace(other)
		if err != api.OK || left != 0 || !samePowers(end, powers(t, turnedPowers(want))) {
			t.Errorf("Trace of %s: %d, %v, error %d, not %s", other, left, end, err, want)
		}
	}
}

// turnedPowers returns powers as texts in which a and c have changed places.
func turnedPowers(text string) string {
	return strings.NewReplacer("a", "c", "c", "a").Replace(text)
}

// P6.3: elements of a half that do not lie in the free group: a number that is not whole on the way, or a power of b that is left.
func TestNotInFreeGroup(t *testing.T) {
	for _, word := range []string{
		"b", "B", "bb", "abA", "AbbbbA", "Abba", "ab", "ba", "cb", "bc", "cabAC", "abAcB", "bAcB", "bbcB", "acbAC", "aabAAc", "aabAAcaBA",
		"Aba", "Abaca", "acAba", "Abacaba", "baB", "BabcB", "cbaB", "cbbbaB", "cBaB", "baab", "bbaaB",
		"Bcb", "aBcb", "Bcbc", "cBcb", "BBccbb", "aBBccbb", "abABBBcb", "BcbaBcb",
	} {
		expectTrace(t, word, nil, 1, nil)
		expectLength(t, turned(word, 2), 1)
	}
}
