package higman_test

import (
	"bytes"
	"strings"
	"testing"

	"sandreckoner/api"
	"sandreckoner/higman"
	"sandreckoner/num"
)

// P1: calls with the zero values of all arguments.
func TestZeroValues(t *testing.T) {
	expectTrace(t, "", nil, 0, nil)
	expectCheck(t, "", nil, 0, nil)
	expectCheck(t, "", []api.Handing{}, 0, nil)
	expectSame(t, "", "", true)
	refusesSteps(t, "", api.Handing{})
	refusesSteps(t, "b", api.Handing{})
	refusesSteps(t, "bd", api.Handing{})
	refusesSteps(t, "bd", make([]api.Handing, 100000)...)
	expectCheck(t, "bBd", []api.Handing{{}}, 1, nil)
	expectCheck(t, "bBd", []api.Handing{{Powers: []api.Power{}}}, 1, nil)
	refusesSteps(t, "bBd", api.Handing{Powers: []api.Power{{}}})
	refusesSteps(t, "bBd", make([]api.Handing, 100000)...)
}

// P1, P2: steps of any kind, with words of any kind, end with ErrArg and nothing beside it, or without an error.
func TestAnySteps(t *testing.T) {
	s := newSampler(51)
	lists := [][]api.Power{nil, nil, nil, {{}}, {{Letter: 'a'}}, {{Letter: 'c', N: []byte{0}}}, powers(t, "a1"), powers(t, "c1"), powers(t, "a-1"), powers(t, "a2"), powers(t, "c2"), powers(t, "b1"), powers(t, "a1 c1")}
	made := 0
	for range 100000 {
		word := ""
		for range s.Intn(6) {
			word += []string{"a", "c", "b", "d", "dD", "bB", "ac", s.word(1)}[s.Intn(8)]
		}
		var list []api.Handing
		for range s.Intn(3) {
			list = append(list, api.Handing{At: s.Intn(6) - 1, Powers: lists[s.Intn(len(lists))]})
		}
		left, end, err := higman.Check(word, list)
		switch {
		case err == api.OK && left <= factorsOf(word)-len(list) && (left == 0 || len(end) == 0):
			made += len(list)
		case err == api.ErrArg && left == 0 && len(end) == 0:
		default:
			t.Fatalf("Check of %s with %v: %d, %v, error %d", word, list, left, end, err)
		}
	}
	if made < 500 {
		t.Errorf("%d steps", made)
	}
}

// P3, P4: no call changes its arguments, results are the caller's own, and calls tell the same again.
func TestCallsStandAlone(t *testing.T) {
	for _, word := range []string{"DaadcDaad", tower(3), "d" + tower(1) + "aD" + tower(1), "aabAAcaaBAAdDd"} {
		list, left, end, err := higman.Trace(word)
		if err != api.OK {
			t.Fatalf("Trace of %s: error %d", word, err)
		}
		kept, keptEnd := copied(list), copied([]api.Handing{{Powers: end}})[0].Powers
		expectCheck(t, word, list, left, end)
		higman.Check(word+"b", list)
		higman.Trace("b" + word)
		higman.Unit(word + inverse(word))
		if !sameSteps(list, kept) || !samePowers(end, keptEnd) {
			t.Errorf("what Trace of %s returned has changed", word)
		}
		for i := range list {
			for j := range list[i].Powers {
				clear(list[i].Powers[j].N)
				_ = append(list[i].Powers[j].N, 1, 2, 3)
				list[i].Powers[j].Letter = 0
			}
			_ = append(list[i].Powers, api.Power{Letter: 'x'})
			if !sameSteps(list[i+1:], kept[i+1:]) || !samePowers(end, keptEnd) {
				t.Errorf("what Trace of %s returned shares memory", word)
			}
		}
		expectTrace(t, word, kept, left, keptEnd)
		expectCheck(t, word, kept, left, keptEnd)
	}
}

// P3: the powers of one list share no memory.
func TestPowersStandAlone(t *testing.T) {
	list, _, _, err := higman.Trace("d" + strings.Repeat("ac", 20) + "D")
	_, _, end, errEnd := higman.Trace(strings.Repeat("ac", 20))
	if err != api.OK || errEnd != api.OK || len(list) != 1 {
		t.Fatalf("%d steps, error %d and error %d", len(list), err, errEnd)
	}
	want := num.Of(1).Bytes()
	for _, told := range [][]api.Power{list[0].Powers, end} {
		if len(told) != 40 {
			t.Fatalf("%d powers", len(told))
		}
		for i := range told {
			clear(told[i].N[:cap(told[i].N)])
			for _, p := range told[i+1:] {
				if !bytes.Equal(p.N, want) {
					t.Fatalf("power %d has changed another one", i)
				}
			}
		}
	}
}

// Ways: what is put behind a product without its last element writes over nothing of it.
func TestProductsStay(t *testing.T) {
	for word, want := range map[string]string{"a": "a1", "ac": "a1 c1", "acac": "a1 c1 a1 c1", "caa": "c1 a2", "bcB": "c2", "acbbaB": "a1 c1 a1"} {
		for _, letter := range "abc" {
			if got := higman.PowersAside(word, letter); !samePowers(got, powers(t, want)) {
				t.Errorf("%s, when %c has been put behind it: %v", word, letter, got)
			}
		}
	}
}

// P7: many steps, of factors of many elements, whose numbers have many terms.
func TestTimeOfLongWords(t *testing.T) {
	heavy := strings.Repeat("aab", 40) + strings.Repeat("A", 80)
	for _, word := range []string{
		strings.Repeat("acdD", api.MaxWord/4),
		"b" + strings.Repeat("acbBdD", 66) + "B",
		strings.Repeat("dD", 66) + strings.Repeat("ca", 66) + "dD",
		heavy + strings.Repeat("cbdD", 50),
		heavy + strings.Repeat("cb", 50) + strings.Repeat("cdD", 33),
		heavy + strings.Repeat("cdD", 66),
		turned(heavy, 2) + strings.Repeat("bBaddbB", 28),
	} {
		for range 3 {
			list, left, end, err := higman.Trace(word)
			if err != api.OK || len(list) == 0 {
				t.Fatalf("Trace of %s: error %d", word, err)
			}
			expectCheck(t, word, list, left, end)
			expectSame(t, word, word, true)
		}
	}
}
