package higman_test

import (
	"bytes"
	"math/big"
	"math/rand"
	"slices"
	"strconv"
	"strings"
	"testing"

	"sandreckoner/api"
	"sandreckoner/higman"
	"sandreckoner/num"
)

// This file makes the words of the tests, and calculates in another way what the package calculates: with fractions that are written out, and with lists that are gone through from their start again and again.

// good returns the result of a call that has to succeed.
func good[T any](x T, err api.Errno) func(t *testing.T) T {
	return func(t *testing.T) T {
		t.Helper()
		if err != api.OK {
			t.Fatalf("error %d", err)
		}
		return x
	}
}

// towerOf returns 2 to the power of 2 to the power of .. to the power of a number.
func towerOf(t *testing.T, levels int, top int64) num.N {
	t.Helper()
	x := num.Of(top)
	for range levels {
		x = good(num.Of(1).Shift(x))(t)
	}
	return x
}

// spread returns the sum of so many powers of two, whose exponents are every so manieth number from the one that is given on.
func spread(t *testing.T, terms int, from, every int64) num.N {
	t.Helper()
	var list []num.Term
	for i := range int64(terms) {
		list = append(list, num.Term{Exp: num.Of(from + every*i)})
	}
	return good(num.Sum(list))(t)
}

// fromBig returns the number that is written out.
func fromBig(t *testing.T, n *big.Int) num.N {
	t.Helper()
	var list []num.Term
	for at := range n.BitLen() {
		if new(big.Int).Abs(n).Bit(at) == 1 {
			list = append(list, num.Term{Minus: n.Sign() < 0, Exp: num.Of(int64(at))})
		}
	}
	return good(num.Sum(list))(t)
}

// of returns a power of a letter.
func of(letter byte, n num.N) api.Power {
	return api.Power{Letter: letter, N: n.Bytes()}
}

// powers returns the powers of letters and small numbers, as in "a1 c-2".
func powers(t *testing.T, text string) []api.Power {
	t.Helper()
	var list []api.Power
	for _, word := range strings.Fields(text) {
		n, err := strconv.ParseInt(word[1:], 10, 64)
		if err != nil {
			t.Fatal(err)
		}
		list = append(list, of(word[0], num.Of(n)))
	}
	return list
}

// step returns a step of powers of small numbers.
func step(t *testing.T, at int, text string) api.Handing {
	t.Helper()
	return api.Handing{At: at, Powers: powers(t, text)}
}

// samePowers reports whether two lists of powers are the same.
func samePowers(x, y []api.Power) bool {
	return slices.EqualFunc(x, y, func(x, y api.Power) bool {
		return x.Letter == y.Letter && bytes.Equal(x.N, y.N)
	})
}

// sameSteps reports whether two lists of steps are the same.
func sameSteps(x, y []api.Handing) bool {
	return slices.EqualFunc(x, y, func(x, y api.Handing) bool {
		return x.At == y.At && samePowers(x.Powers, y.Powers)
	})
}

// copied returns steps that share no memory with those that are given.
func copied(steps []api.Handing) []api.Handing {
	var list []api.Handing
	for _, s := range steps {
		one := api.Handing{At: s.At}
		for _, p := range s.Powers {
			one.Powers = append(one.Powers, api.Power{Letter: p.Letter, N: slices.Clone(p.N)})
		}
		list = append(list, one)
	}
	return list
}

// expectTrace checks all that Trace returns, and what Length and Unit do.
func expectTrace(t *testing.T, word string, steps []api.Handing, left int, end []api.Power) {
	t.Helper()
	got, gotLeft, gotEnd, err := higman.Trace(word)
	if err != api.OK || gotLeft != left || !samePowers(gotEnd, end) || !sameSteps(got, steps) {
		t.Errorf("Trace of %s: %v, %d, %v, error %d; not %v, %d, %v", word, got, gotLeft, gotEnd, err, steps, left, end)
	}
	expectLength(t, word, left)
	expectUnit(t, word, left == 0 && len(end) == 0)
}

// expectCheck checks what Check returns for steps that can be made.
func expectCheck(t *testing.T, word string, steps []api.Handing, left int, end []api.Power) {
	t.Helper()
	got, gotEnd, err := higman.Check(word, steps)
	if err != api.OK || got != left || !samePowers(gotEnd, end) {
		t.Errorf("Check of %s with %v: %d, %v, error %d; not %d, %v", word, steps, got, gotEnd, err, left, end)
	}
}

// refusesSteps checks that Check refuses steps, and returns nothing beside the error.
func refusesSteps(t *testing.T, word string, steps ...api.Handing) {
	t.Helper()
	left, end, err := higman.Check(word, steps)
	if err != api.ErrArg || left != 0 || len(end) != 0 {
		t.Errorf("Check of %s with %v: %d, %v, error %d", word, steps, left, end, err)
	}
}

// expectLength checks what Length returns of a word.
func expectLength(t *testing.T, word string, want int) {
	t.Helper()
	if n, err := higman.Length(word); err != api.OK || n != want {
		t.Errorf("Length of %s: %d, error %d, not %d", word, n, err, want)
	}
}

// expectUnit checks what Unit returns of a word.
func expectUnit(t *testing.T, word string, want bool) {
	t.Helper()
	if unit, err := higman.Unit(word); err != api.OK || unit != want {
		t.Errorf("Unit of %s: %t, error %d, not %t", word, unit, err, want)
	}
}

// expectSame checks what Same returns of two words, one way and the other.
func expectSame(t *testing.T, u, v string, want bool) {
	t.Helper()
	there, err := higman.Same(u, v)
	back, errBack := higman.Same(v, u)
	if err != api.OK || errBack != api.OK || there != want || back != want {
		t.Errorf("Same of %s and %s: %t, error %d, and %t, error %d, not %t", u, v, there, err, back, errBack, want)
	}
}

// slow is an element that is written out, of one of the groups (a, b), (b, c), (c, d) and (d, a), which are told by their places: z is taken to 2^m z + sum.
type slow struct {
	group int
	sum   *big.Rat
	m     int
}

// tooGreat is how great the exponents and the numbers of digits can be of what is written out.
const tooGreat = 4000

// twoTo returns 2^e.
func twoTo(e int) *big.Rat {
	p := new(big.Int).Lsh(big.NewInt(1), uint(max(e, -e)))
	if e < 0 {
		return new(big.Rat).SetFrac(big.NewInt(1), p)
	}
	return new(big.Rat).SetInt(p)
}

// slowPower returns the power of a letter that is in the group.
func slowPower(group int, letter byte, n *big.Int) slow {
	if letter == "abcd"[group] {
		return slow{group, new(big.Rat), int(n.Int64())}
	}
	return slow{group, new(big.Rat).SetInt(n), 0}
}

// times returns the product with an element of the same group.
func (x slow) times(y slow) slow {
	sum := new(big.Rat).Mul(twoTo(x.m), y.sum)
	return slow{x.group, sum.Add(sum, x.sum), x.m + y.m}
}

// isGreat reports whether the element is too great to go on.
func (x slow) isGreat() bool {
	return max(x.m, -x.m) > tooGreat || x.sum.Num().BitLen() > tooGreat || x.sum.Denom().BitLen() > tooGreat
}

// shared returns k if the element is the power k of the letter that both groups of its half have.
func (x slow) shared() (*big.Int, bool) {
	if x.group%2 == 0 {
		return x.sum.Num(), x.m == 0 && x.sum.IsInt()
	}
	return big.NewInt(int64(x.m)), x.sum.Sign() == 0
}

// moved returns the power k of the letter that both groups of a half have, in the other one of them.
func (x slow) moved(k *big.Int) slow {
	other := x.group ^ 1
	return slowPower(other, "abcd"[x.group|1], k)
}

// slowFactor is a product of elements of one half.
type slowFactor []slow

// settled returns the product as a reduced one, and whether it can be written out.
func (f slowFactor) settled() (slowFactor, bool) {
	for i := 0; i+1 < len(f); i++ {
		if f[i].group == f[i+1].group {
			one := f[i].times(f[i+1])
			if one.isGreat() {
				return nil, false
			}
			return slices.Concat(f[:i], slowFactor{one}, f[i+2:]).settled()
		}
	}
	for i := range f {
		k, ok := f[i].shared()
		if ok && len(f) > 1 {
			if k.BitLen() > 12 {
				return nil, false
			}
			return slices.Concat(f[:i], slowFactor{f[i].moved(k)}, f[i+1:]).settled()
		}
	}
	return f, true
}

// slowList is a list of powers of a and c.
type slowList []slowLetter

// slowLetter is a power of a letter.
type slowLetter struct {
	letter byte
	n      *big.Int
}

// powers returns the powers that a reduced product is, by the rule of P6.3; whether there are such; and whether they can be written out.
func (f slowFactor) powers() (list slowList, ok, fits bool) {
	k := new(big.Rat)
	for _, x := range f {
		var n *big.Rat
		letter := "acca"[x.group]
		if x.group%2 == 0 {
			n = new(big.Rat).SetInt64(int64(x.m))
			k.Add(k, x.sum)
			k.Mul(k, twoTo(-x.m))
		} else {
			if k.Num().BitLen() > 12 {
				return nil, false, false
			}
			n = new(big.Rat).Mul(x.sum, twoTo(int(k.Num().Int64())))
			k = new(big.Rat).Add(k, new(big.Rat).SetInt64(int64(x.m)))
		}
		if !k.IsInt() || !n.IsInt() {
			return nil, false, true
		}
		if n.Sign() != 0 {
			list = append(list, slowLetter{letter, new(big.Int).Set(n.Num())})
		}
	}
	return list, k.Sign() == 0, true
}

// told returns the powers as the package tells them.
func (l slowList) told(t *testing.T) []api.Power {
	t.Helper()
	var list []api.Power
	for _, p := range l {
		list = append(list, of(p.letter, fromBig(t, p.n)))
	}
	return list
}

// slowWord is a word as its factors, which are written out.
type slowWord []slowFactor

// home returns the group in which a letter is put down in a half.
func home(half int, letter byte) int {
	return [2]map[byte]int{{'a': 0, 'b': 1, 'c': 1}, {'c': 2, 'd': 3, 'a': 3}}[half][letter]
}

// slowRead returns the factors of a word as its letters stand, and whether they can be written out.
func slowRead(word string) (w slowWord, fits bool) {
	last := -1
	for i := range len(word) {
		letter := word[i] | 32
		sign := int64(1)
		if letter != word[i] {
			sign = -1
		}
		half := 0
		if letter == 'd' {
			half = 1
		}
		if half != last {
			w = append(w, nil)
			last = half
		}
		one := slowPower(home(half, letter), letter, big.NewInt(sign))
		w[len(w)-1] = append(w[len(w)-1], one)
	}
	for i := range w {
		if w[i], fits = w[i].settled(); !fits {
			return nil, false
		}
	}
	return w, true
}

// handable is a factor that can be handed over.
type handable struct {
	at   int
	list slowList
}

// handables returns all factors that can be handed over, and whether all of them can be told.
func (w slowWord) handables() (list []handable, fits bool) {
	for at, f := range w {
		powers, ok, fits := f.powers()
		if !fits {
			return nil, false
		}
		if ok && len(w) > 1 {
			list = append(list, handable{at, powers})
		}
	}
	return list, true
}

// make returns the word behind the step that hands a factor over, and whether it can be written out.
func (w slowWord) make(h handable) (slowWord, bool) {
	half := 1 - w[h.at][0].group/2
	var middle slowFactor
	for _, p := range h.list {
		if p.n.BitLen() > 12 {
			return nil, false
		}
		middle = append(middle, slowPower(home(half, p.letter), p.letter, p.n))
	}
	from, to := max(h.at-1, 0), min(h.at+2, len(w))
	one, fits := slices.Concat(slices.Concat(w[from:h.at]...), middle, slices.Concat(w[h.at+1:to]...)).settled()
	return slices.Concat(w[:from], slowWord{one}, w[to:]), fits
}

// slowReduce hands factors of a word over as long as one can be, the one of the list that pick returns; and tells what is left, the steps, and whether all could be written out.
func slowReduce(t *testing.T, word string, pick func(count int) int) (slowWord, []api.Handing, bool) {
	t.Helper()
	var steps []api.Handing
	w, fits := slowRead(word)
	for fits {
		list, told := w.handables()
		if !told || len(list) == 0 {
			return w, steps, told
		}
		h := list[pick(len(list))]
		steps = append(steps, api.Handing{At: h.at, Powers: h.list.told(t)})
		w, fits = w.make(h)
	}
	return nil, nil, false
}

// left returns what Trace and Check return of the word; it can be told if all steps could.
func (w slowWord) left(t *testing.T) (int, []api.Power) {
	t.Helper()
	if len(w) == 1 {
		if list, ok, _ := w[0].powers(); ok {
			return 0, list.told(t)
		}
	}
	return len(w), nil
}

// relators are the words that the relations tell to be the unit.
var relators = []string{"abABB", "bcBCC", "cdCDD", "daDAA"}

// inverse returns the inverse of a word.
func inverse(word string) string {
	turned := []byte(word)
	slices.Reverse(turned)
	for i := range turned {
		turned[i] ^= 32
	}
	return string(turned)
}

// turned returns the word with each letter, so many times, as the next one: a as b, b as c, c as d, d as a.
func turned(word string, times int) string {
	letters := []byte(word)
	for i, letter := range letters {
		small := letter | 32
		letters[i] += (small-'a'+byte(times))%4 + 'a' - small
	}
	return string(letters)
}

// reduced returns a word in which no letter stands beside its inverse.
func reduced(word string) string {
	var left []byte
	for _, letter := range []byte(word) {
		if last := len(left) - 1; last >= 0 && left[last]^32 == letter {
			left = left[:last]
		} else {
			left = append(left, letter)
		}
	}
	return string(left)
}

// sampler makes words.
type sampler struct {
	*rand.Rand
}

func newSampler(seed int64) sampler {
	return sampler{rand.New(rand.NewSource(seed))}
}

// letter returns a letter or its inverse.
func (s sampler) letter() string {
	return string("abcdABCD"[s.Intn(8)])
}

// word returns a word of a few letters, with factors of the free group in it.
func (s sampler) word(levels int) string {
	if levels == 0 {
		return strings.Repeat(s.letter(), s.Intn(3))
	}
	first, second := s.word(levels-1), s.word(levels-1)
	switch s.Intn(8) {
	case 0, 1:
		x := s.letter()
		return x + first + inverse(x)
	case 2:
		return "d" + first + "D"
	case 3:
		return first + second + inverse(first)
	case 4:
		r := turned(relators[s.Intn(4)], s.Intn(4))
		cut := s.Intn(len(r))
		return first + r[:cut] + second
	}
	return first + second
}

// unit returns a word that is the unit: relators that are put into one another, and into pairs of letters.
func (s sampler) unit(most int) string {
	word := ""
	for {
		put := relators[s.Intn(4)]
		switch s.Intn(4) {
		case 0:
			put = inverse(put)
		case 1:
			x := s.letter()
			put = x + inverse(x)
		}
		if len(word)+len(put) > most {
			return word
		}
		at := s.Intn(len(word) + 1)
		word = word[:at] + put + word[at:]
	}
}
