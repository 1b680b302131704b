package higman_test

import (
	"math"
	"slices"
	"testing"

	"sandreckoner/api"
	"sandreckoner/higman"
	"sandreckoner/num"
)

// P6.9: the document's examples, other orders, and fewer steps than there could be.
func TestCheckExamples(t *testing.T) {
	for _, x := range []struct {
		word, steps string
		left        int
		end         string
	}{
		{"", "", 0, ""},
		{"abABB", "", 0, ""},
		{"ca", "", 0, "c1 a1"},
		{"b", "", 1, ""},
		{"aabAAcaaBAAd", "", 2, ""},
		{"aabAAcaaBAAd", "0 c16", 1, ""},
		{"dabABBD", "", 3, ""},
		{"dabABBD", "1", 0, ""},
		{"bdBD", "", 4, ""},
		// Factors at any place, one after another.
		{"adDa", "", 3, ""},
		{"adDa", "0 a1", 2, ""},
		{"adDa", "2 a1", 2, ""},
		{"adDa", "1", 0, "a2"},
		{"adDa", "0 a1; 0 a1", 0, "a2"},
		{"adDa", "0 a1; 1 a1", 0, "a2"},
		{"adDa", "2 a1; 0 a1", 0, "a2"},
		{"adDa", "2 a1; 1 a1", 0, "a2"},
		{"DaadcDaad", "1 a2; 0 a1; 2 a2; 1 a1", 0, "a1 c1 a1"},
		{"DaadcDaad", "5 a2; 4 a1; 1 a2; 0 a1", 0, "a1 c1 a1"},
		{"DaadcDaad", "3 c1; 1 a2", 3, ""},
		{"DaadcDaad", "3 c1; 3 a2; 1 a2", 0, "a1 c1 a1"},
		{"bdbBDB", "2; 1", 0, ""},
		{"bdbBDbdbBDB", "6", 7, ""},
		{"bdbBDbdbBDB", "2; 1; 2", 3, ""},
		{"bdbBDbdbBDB", "6; 5; 2; 1", 1, ""},
	} {
		expectCheck(t, x.word, steps(t, x.steps), x.left, powers(t, x.end))
	}
}

// P6.9: places where there is no factor, single factors, and factors that do not lie in the free group; also behind steps that can be made.
func TestCheckRefusesPlaces(t *testing.T) {
	for _, at := range []int{-1, -2, 1, 2, 3, math.MaxInt, math.MaxInt - 1, math.MinInt, 1 << 62} {
		for _, list := range [][]api.Power{nil, powers(t, "c16"), powers(t, "a1")} {
			refusesSteps(t, "aabAAcaaBAAd", api.Handing{At: at, Powers: list})
			refusesSteps(t, "aabAAcaaBAAd", step(t, 0, "c16"), api.Handing{At: at, Powers: list})
			refusesSteps(t, "", api.Handing{At: at, Powers: list})
			refusesSteps(t, "a", api.Handing{At: at, Powers: list})
		}
	}
	refusesSteps(t, "", step(t, 0, ""))
	refusesSteps(t, "a", step(t, 0, "a1"))
	refusesSteps(t, "abABB", step(t, 0, ""))
	refusesSteps(t, "dD", step(t, 0, ""))
	refusesSteps(t, "dabABBD", step(t, 0, ""))
	refusesSteps(t, "dabABBD", step(t, 2, ""))
	refusesSteps(t, "dabABBD", step(t, 3, ""))
	refusesSteps(t, "dabABBD", step(t, 1, ""), step(t, 0, ""))
	refusesSteps(t, "ad", step(t, 0, "a1"), step(t, 0, ""))
	for at := range 4 {
		for _, text := range []string{"", "a1", "c1", "a1 c1"} {
			refusesSteps(t, "bdBD", step(t, at, text))
			refusesSteps(t, "abdcabACDb", step(t, at, text))
			refusesSteps(t, "BcbdAbadBcb", step(t, at, text))
		}
	}
	refusesSteps(t, "bdaDb", step(t, 2, "a1"), step(t, 0, ""))
	refusesSteps(t, "bdaDb", step(t, 2, "a1"), step(t, 2, ""))
	refusesSteps(t, "bdaDb", step(t, 2, "a1"), step(t, 2, "a1"))
}

// P6.9: powers that are not just those that a factor is.
func TestCheckRefusesPowers(t *testing.T) {
	for _, text := range []string{"", "c15", "c17", "c-16", "c1", "a16", "c8 c8", "c16 c0", "c0 c16", "a0 c16", "c16 a0", "c17 c-1", "a1 c16 a-1", "c16 a1", "b16", "d16", "C16", "A16", "c16 c16", "a0", "c0"} {
		refusesSteps(t, "aabAAcaaBAAd", step(t, 0, text))
		refusesSteps(t, "daabAAcaaBAAd", step(t, 1, text))
		refusesSteps(t, "daabAAcaaBAAbBd", step(t, 1, text), step(t, 0, ""))
	}
	for _, text := range []string{"a0", "c0", "a1", "a1 a-1", "a0 c0", "c1 c-1"} {
		refusesSteps(t, "dabABBD", step(t, 1, text))
	}
	for _, text := range []string{"", "a1", "c1", "c1 a1", "a1 c1 a0", "a1 c2", "a2 c1", "a1 c-1", "a1 a0 c1", "a2 a-1 c1"} {
		refusesSteps(t, "dacD", step(t, 1, text))
	}
	right := num.Of(16).Bytes()
	for _, b := range [][]byte{nil, {}, {0}, num.Of(0).Bytes(), right[:len(right)-1], append(slices.Clone(right), 0), slices.Insert(slices.Clone(right), 2, 0, 0)} {
		refusesSteps(t, "aabAAcaaBAAd", api.Handing{Powers: []api.Power{{Letter: 'c', N: b}}})
	}
	for letter := range 256 {
		if letter != 'c' {
			refusesSteps(t, "aabAAcaaBAAd", api.Handing{Powers: []api.Power{{Letter: byte(letter), N: right}}})
		}
	}
}

// P6.10: words whose numbers are written out, with factors handed over in any order: what is left hangs neither on the order nor on the way of finding them.
func TestCheckInAnyOrder(t *testing.T) {
	s := newSampler(31)
	words, different := 0, 0
	for range 8000 {
		word := s.word(2 + s.Intn(4))
		if len(word) > api.MaxWord {
			continue
		}
		w, list, ok := slowReduce(t, word, s.Intn)
		if !ok {
			continue
		}
		left, end := w.left(t)
		expectCheck(t, word, list, left, end)
		traced, leftTraced, endTraced, err := higman.Trace(word)
		if err != api.OK || leftTraced != left || !samePowers(endTraced, end) {
			t.Fatalf("Trace of %s: %d, %v, error %d, not %d, %v", word, leftTraced, endTraced, err, left, end)
		}
		words++
		if !sameSteps(list, traced) {
			different++
		}
	}
	if words < 7000 || different < words/4 {
		t.Errorf("%d words, %d orders that are not that of Trace", words, different)
	}
}

// factorsOf returns how many factors the letters of a word make.
func factorsOf(word string) int {
	count := 0
	for i := range len(word) {
		if i == 0 || (word[i]|32 == 'd') != (word[i-1]|32 == 'd') {
			count++
		}
	}
	return count
}

// P6.8, P6.9: what Trace returns can be checked, step by step, and nothing else beside it at the same places.
func TestCheckOfTraces(t *testing.T) {
	s := newSampler(32)
	for range 300 {
		word := s.word(3+s.Intn(3)) + s.unit(60)
		if len(word) > api.MaxWord {
			continue
		}
		list, left, end, err := higman.Trace(word)
		if err != api.OK {
			t.Fatalf("Trace of %s: error %d", word, err)
		}
		expectCheck(t, word, list, left, end)
		count := factorsOf(word)
		for i, made := range list {
			if count > 1 {
				expectCheck(t, word, list[:i], count, nil)
			}
			count -= 2
			if made.At == 0 || made.At == count+1 {
				count++
			}
			refusesWrong(t, word, list, i)
		}
		if left != 0 && left != count || left == 0 && count > 1 {
			t.Errorf("Trace of %s: %d left, not %d", word, left, count)
		}
		refusesSteps(t, word, append(slices.Clone(list), api.Handing{At: left, Powers: end})...)
	}
}

// refusesWrong checks that steps of which one is wrong are refused.
func refusesWrong(t *testing.T, word string, list []api.Handing, at int) {
	t.Helper()
	wrong := func(powers []api.Power) {
		t.Helper()
		changed := slices.Clone(list)
		changed[at].Powers = powers
		refusesSteps(t, word, changed...)
	}
	right := list[at].Powers
	wrong(slices.Concat(right, []api.Power{of('a', num.Of(0))}))
	wrong(slices.Concat([]api.Power{of('c', num.Of(1))}, right))
	for i, p := range right {
		wrong(slices.Concat(right[:i], right[i+1:]))
		n := good(num.Load(p.N))(t)
		for _, other := range []num.N{n.Neg(), good(n.Add(num.Of(1)))(t), good(n.Add(n))(t), towerOf(t, 3, 5)} {
			if other.Cmp(n) != 0 {
				wrong(slices.Concat(right[:i], []api.Power{of(p.Letter, other)}, right[i+1:]))
			}
		}
		wrong(slices.Concat(right[:i], []api.Power{of('a'+'c'-p.Letter, n)}, right[i+1:]))
	}
}

// P6.10: numbers that cannot be written out: the inverse of a word has the inverse powers, though its factors are handed over from the other end.
func TestInverseOrder(t *testing.T) {
	s := newSampler(33)
	great := 0
	for range 1500 {
		word := ""
		for range 1 + s.Intn(5) {
			word += []string{tower(1), inverse(tower(1)), tower(3), "a", "C", "d", s.unit(30), s.word(1)}[s.Intn(8)]
		}
		if len(word) > api.MaxWord {
			continue
		}
		_, left, end, err := higman.Trace(word)
		_, leftBack, endBack, errBack := higman.Trace(inverse(word))
		if err != api.OK || errBack != api.OK || left != leftBack || len(end) != len(endBack) {
			t.Fatalf("Trace of %s: %d, %v, error %d; of its inverse %d, %v, error %d", word, left, end, err, leftBack, endBack, errBack)
		}
		for i, p := range end {
			n, back := good(num.Load(p.N))(t), endBack[len(end)-1-i]
			if back.Letter != p.Letter || good(num.Load(back.N))(t).Cmp(n.Neg()) != 0 {
				t.Errorf("Trace of %s: %v, of its inverse %v", word, end, endBack)
			}
			if _, small := n.Int(); !small {
				great++
			}
		}
	}
	if great < 200 {
		t.Errorf("%d great powers", great)
	}
}
