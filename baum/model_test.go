package baum_test

import (
	"bytes"
	"math/big"
	"math/rand"
	"slices"
	"strings"
	"testing"

	"sandreckoner/api"
	"sandreckoner/baum"
	"sandreckoner/num"
)

// This file makes the elements and words of the tests, and calculates in another way what the package calculates: with fractions that are written out.

// good returns the result of a call that has to succeed.
func good[T any](x T, err api.Errno) func(t *testing.T) T {
	return func(t *testing.T) T {
		t.Helper()
		if err != api.OK {
			t.Fatalf("error %d", err)
		}
		return x
	}
}

// refuses checks that a call ends with an error, and with the zero value.
func refuses[T comparable](x T, err api.Errno) func(t *testing.T, what string, want api.Errno) {
	return func(t *testing.T, what string, want api.Errno) {
		t.Helper()
		var zero T
		if err != want || x != zero {
			t.Errorf("%s: error %d, not error %d and the zero value", what, err, want)
		}
	}
}

// of returns an element of small numbers.
func of(u, v, m int64) baum.E {
	return baum.E{U: num.Of(u), V: num.Of(v), M: num.Of(m)}
}

// equal reports whether two elements have the same numbers.
func equal(x, y baum.E) bool {
	return x.U.Cmp(y.U) == 0 && x.V.Cmp(y.V) == 0 && x.M.Cmp(y.M) == 0
}

// same checks that two elements have the same numbers.
func same(t *testing.T, what string, x, want baum.E) {
	t.Helper()
	if !equal(x, want) {
		t.Errorf("%s: %s, not %s", what, show(x), show(want))
	}
}

// show returns a text of an element.
func show(x baum.E) string {
	var texts []string
	for _, n := range []num.N{x.U, x.V, x.M} {
		small, ok := n.Int()
		if text := big.NewInt(small).String(); ok {
			texts = append(texts, text)
		} else {
			texts = append(texts, "great")
		}
	}
	return "(" + strings.Join(texts, ", ") + ")"
}

// power returns 2 to the power of a number.
func power(t *testing.T, e num.N) num.N {
	t.Helper()
	return good(num.Of(1).Shift(e))(t)
}

// towerOf returns 2 to the power of 2 to the power of .. to the power of a number.
func towerOf(t *testing.T, levels int, top num.N) num.N {
	t.Helper()
	for range levels {
		top = power(t, top)
	}
	return top
}

// plus returns the sum of some numbers.
func plus(t *testing.T, numbers ...num.N) num.N {
	t.Helper()
	sum := num.Of(0)
	for _, x := range numbers {
		sum = good(sum.Add(x))(t)
	}
	return sum
}

// spread returns the sum of so many powers of two, whose exponents are every fourth number from the one that is given on.
func spread(t *testing.T, terms int, from int64) num.N {
	t.Helper()
	var list []num.Term
	for i := range int64(terms) {
		list = append(list, num.Term{Exp: num.Of(from + 4*i)})
	}
	return good(num.Sum(list))(t)
}

// heavy returns a number of a weight of more than 100: each tower of seven levels above one of the numbers from the base on that its terms have as an exponent brings eight parts, one of eight levels brings one.
func heavy(t *testing.T, weight int, base int64) num.N {
	t.Helper()
	x := num.Of(0)
	for i := int64(0); x.Weight() <= weight-30; i++ {
		x = plus(t, x, power(t, towerOf(t, 7, num.Of(base+i))))
	}
	for i := int64(0); x.Weight() < weight; i++ {
		x = plus(t, x, power(t, towerOf(t, 8, num.Of(base+i))))
	}
	if x.Weight() != weight {
		t.Fatalf("the weight is %d", x.Weight())
	}
	return x
}

// fromBig returns the number that is written out.
func fromBig(t *testing.T, n *big.Int) num.N {
	t.Helper()
	x := num.Of(0)
	size := new(big.Int).Abs(n)
	for at := 0; at < size.BitLen(); at += 32 {
		digits := new(big.Int).Rsh(size, uint(at)).Uint64() & (1<<32 - 1)
		x = plus(t, x, good(num.Of(int64(digits)).Shift(num.Of(int64(at))))(t))
	}
	if n.Sign() < 0 {
		return x.Neg()
	}
	return x
}

// pinch returns a step.
func pinch(at int, k num.N) api.Pinch {
	return api.Pinch{At: at, Power: k.Bytes()}
}

// sameSteps reports whether two lists of steps are the same.
func sameSteps(x, y []api.Pinch) bool {
	return slices.EqualFunc(x, y, func(x, y api.Pinch) bool {
		return x.At == y.At && bytes.Equal(x.Power, y.Power)
	})
}

// slow is an element that is written out: z is taken to 2^m z + sum.
type slow struct {
	sum *big.Rat
	m   int
}

// slowOf returns the element that takes z to 2^m z + u 2^v.
func slowOf(u, v, m int64) slow {
	return slow{new(big.Rat).Mul(new(big.Rat).SetInt64(u), twoTo(int(v))), int(m)}
}

// twoTo returns 2^e.
func twoTo(e int) *big.Rat {
	p := new(big.Int).Lsh(big.NewInt(1), uint(max(e, -e)))
	if e < 0 {
		return new(big.Rat).SetFrac(big.NewInt(1), p)
	}
	return new(big.Rat).SetInt(p)
}

// of returns what z is taken to.
func (x slow) of(z *big.Rat) *big.Rat {
	y := new(big.Rat).Mul(twoTo(x.m), z)
	return y.Add(y, x.sum)
}

// times returns the element that takes z to x(y(z)).
func (x slow) times(y slow) slow {
	return slow{x.of(y.sum), x.m + y.m}
}

// plain returns the plain form.
func (x slow) plain(t *testing.T) baum.E {
	t.Helper()
	m := num.Of(int64(x.m))
	if x.sum.Sign() == 0 {
		return baum.E{M: m}
	}
	above, below := x.sum.Num(), x.sum.Denom()
	halved := above.TrailingZeroBits()
	odd := new(big.Int).Quo(above, new(big.Int).Lsh(big.NewInt(1), halved))
	return baum.E{U: fromBig(t, odd), V: num.Of(int64(halved) - int64(below.BitLen()-1)), M: m}
}

// slowWord is a word that is written out, as its letters b and B with elements ahead of each, and behind the last one.
type slowWord struct {
	outer string
	inner []slow
}

// slowRead returns a word that is written out.
func slowRead(word string) slowWord {
	w := slowWord{inner: []slow{slowOf(0, 0, 0)}}
	for _, letter := range word {
		last := len(w.inner) - 1
		switch letter {
		case 'a':
			w.inner[last] = w.inner[last].times(slowOf(1, 0, 0))
		case 'A':
			w.inner[last] = w.inner[last].times(slowOf(-1, 0, 0))
		default:
			w.outer += string(letter)
			w.inner = append(w.inner, slowOf(0, 0, 0))
		}
	}
	return w
}

// pinches returns the places of all pinches.
func (w slowWord) pinches() []int {
	var places []int
	for i := 0; i+1 < len(w.outer); i++ {
		g := w.inner[i+1]
		switch w.outer[i : i+2] {
		case "bB":
			if g.m == 0 && g.sum.IsInt() {
				places = append(places, i)
			}
		case "Bb":
			if g.sum.Sign() == 0 {
				places = append(places, i)
			}
		}
	}
	return places
}

// make returns the word behind the pinch at a place, and k; and whether it can be written out.
func (w slowWord) make(at int) (slowWord, *big.Int, bool) {
	g := w.inner[at+1]
	var k *big.Int
	var e slow
	if w.outer[at] == 'b' {
		k = new(big.Int).Set(g.sum.Num())
		if k.BitLen() > 12 {
			return w, nil, false
		}
		e = slowOf(0, 0, k.Int64())
	} else {
		k = big.NewInt(int64(g.m))
		e = slow{new(big.Rat).SetInt(k), 0}
	}
	one := w.inner[at].times(e).times(w.inner[at+2])
	next := slowWord{w.outer[:at] + w.outer[at+2:], slices.Concat(w.inner[:at], []slow{one}, w.inner[at+3:])}
	return next, k, max(one.m, -one.m) < 10000
}

// reduce makes pinches as long as there is one, the one of the list of places that pick returns; and tells the steps, and whether all could be written out.
func (w slowWord) reduce(t *testing.T, pick func(count int) int) (slowWord, []api.Pinch, bool) {
	t.Helper()
	var steps []api.Pinch
	for places := w.pinches(); len(places) > 0; places = w.pinches() {
		at := places[pick(len(places))]
		next, k, ok := w.make(at)
		if !ok {
			return w, nil, false
		}
		w = next
		steps = append(steps, pinch(at, fromBig(t, k)))
	}
	return w, steps, true
}

// left returns what Trace and Check return of the word.
func (w slowWord) left(t *testing.T) (int, baum.E) {
	t.Helper()
	if len(w.outer) > 0 {
		return len(w.outer), baum.E{}
	}
	return 0, w.inner[0].plain(t)
}

// relator is a word that is the unit.
const relator = "baBabABAA"

// inverse returns the inverse of a word.
func inverse(word string) string {
	turned := ""
	for _, letter := range word {
		turned = strings.Map(func(r rune) rune { return r ^ 32 }, string(letter)) + turned
	}
	return turned
}

// tower returns a word that is a to the power of a tower of so many powers of two: with w for one of a level less, b w B is t to that power, and so takes a to a tower of a level more.
func tower(levels int) string {
	w := "a"
	for range levels {
		w = "b" + w + "Bab" + inverse(w) + "B"
	}
	return w
}

// sampler makes words.
type sampler struct {
	*rand.Rand
}

func newSampler(seed int64) sampler {
	return sampler{rand.New(rand.NewSource(seed))}
}

// word returns a word of a few letters, with pinches one in another.
func (s sampler) word(levels int) string {
	if levels == 0 {
		return []string{"", "a", "A", "aa", "AA", "aaa", "b", "B"}[s.Intn(8)]
	}
	first, second := s.word(levels-1), s.word(levels-1)
	switch s.Intn(9) {
	case 0:
		return "b" + first + "B"
	case 1:
		return "B" + first + "b"
	case 2:
		return "bb" + first + "BB"
	case 3:
		return "Bb" + first + "Bb"
	case 4:
		return first + "baB" + second
	case 5:
		return first + "bAB" + inverse(first)
	case 6:
		return first + second + inverse(first)
	}
	return first + second
}

// unit returns a word that is the unit: relators that are put into one another, and into pairs of letters.
func (s sampler) unit(most int) string {
	word := ""
	for {
		put := []string{relator, inverse(relator), "aA", "Aa", "bB", "Bb"}[s.Intn(6)]
		if len(word)+len(put) > most {
			return word
		}
		at := s.Intn(len(word) + 1)
		word = word[:at] + put + word[at:]
	}
}
