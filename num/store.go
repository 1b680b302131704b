package num

import (
	"cmp"
	"math"
	"slices"
	"strconv"
)

// store is where one call calculates: what it knows of the forms that it meets. Forms that are taken or kept there are alike only if they are the same form, so that == compares such numbers. The zero value is an empty store.
type store struct {
	places map[*form]int    // the forms are numbered as they are met
	taken  map[*form]N      // what was taken, and what it is here
	alike  map[string]*form // the forms by their terms
	order  map[[2]int]int   // how the forms of two places compare
	after  map[N]N          // exponents, and what is one greater
}

// note puts something into a map, which is made when it is needed: a call that comes to int64s alone needs none.
func note[K comparable, V any](to *map[K]V, key K, value V) {
	if *to == nil {
		*to = map[K]V{}
	}
	(*to)[key] = value
}

// place returns the place of a form.
func (s *store) place(f *form) int {
	place, ok := s.places[f]
	if !ok {
		place = len(s.places)
		note(&s.places, f, place)
	}
	return place
}

// take returns a number made of forms of the store.
func (s *store) take(x N) N {
	var walk func(x N) N
	walk = func(x N) N {
		if x.great == nil {
			return x
		}
		if y, ok := s.taken[x.great]; ok {
			return y
		}
		terms := slices.Clone(x.great.terms)
		for i := range terms {
			terms[i].Exp = walk(terms[i].Exp)
		}
		y := s.keep(terms)
		note(&s.taken, x.great, y)
		return y
	}
	return walk(x)
}

// keep returns the number of a form, whose exponents are of the store. It takes over the slice.
func (s *store) keep(terms []Term) N {
	if n, ok := asSmall(terms); ok {
		return Of(n)
	}
	key := s.key(terms)
	f, ok := s.alike[key]
	if !ok {
		f = &form{terms}
		note(&s.alike, key, f)
	}
	return N{great: f}
}

// key returns a text that is another one for each form.
func (s *store) key(terms []Term) string {
	var key []byte
	for _, t := range terms {
		if t.Minus {
			key = append(key, '-')
		} else {
			key = append(key, '+')
		}
		if t.Exp.great == nil {
			key = strconv.AppendInt(key, t.Exp.small, 10)
		} else {
			key = append(key, '#')
			key = strconv.AppendInt(key, int64(s.place(t.Exp.great)), 10)
		}
	}
	return string(key)
}

// compare returns -1, 0 or 1 as x is less than y, the same, or greater. The numbers need not be of the store.
func (s *store) compare(x, y N) int {
	switch {
	case x == y:
		return 0
	case x.great == nil && y.great == nil:
		return cmp.Compare(x.small, y.small)
	case x.great == nil: // y lies beyond all int64s
		return -y.Sign()
	case y.great == nil:
		return x.Sign()
	}
	pair := [2]int{s.place(x.great), s.place(y.great)}
	order, ok := s.order[pair]
	if !ok {
		order = compareLists(x.great.terms, y.great.terms, s.compareTerms, Term.sign)
		note(&s.order, pair, order)
	}
	return order
}

// compareTerms returns -1, 0 or 1 as t is less than u, the same, or greater.
func (s *store) compareTerms(t, u Term) int {
	if t.Minus != u.Minus {
		return t.sign()
	}
	return t.sign() * s.compare(t.Exp, u.Exp)
}

// add returns x + y, of numbers of the store.
func (s *store) add(x, y N) N {
	if sum, ok := addSmall(x, y); ok {
		return sum
	}
	return s.sum(slices.Concat(x.terms(), y.terms()))
}

// sum returns the sum of terms whose exponents are of the store.
func (s *store) sum(terms []Term) N {
	falling := func(t, u Term) int { return s.compare(u.Exp, t.Exp) }
	return s.keep(s.settle(ordered(terms, falling), 0))
}

// next returns x + 1, of an exponent of the store.
func (s *store) next(x N) N {
	if x.great == nil && x.small < math.MaxInt64 {
		return Of(x.small + 1)
	}
	y, ok := s.after[x]
	if !ok {
		terms := x.terms()
		one := Term{Exp: Of(0)}
		y = s.keep(s.settle(slices.Concat(terms, []Term{one}), len(terms)))
		note(&s.after, x, y)
	}
	return y
}

// follows reports whether y is x + 1, of exponents of the store.
func (s *store) follows(x, y N) bool {
	// Asking this first saves most numbers x + 1 from being made.
	return x.odd() != y.odd() && s.next(x) == y
}

// odd reports whether the number is odd: its form then ends with 1 or -1.
func (x N) odd() bool {
	if x.great == nil {
		return x.small&1 == 1
	}
	terms := x.great.terms
	return terms[len(terms)-1].Exp == Of(0)
}

// settle returns the form of the sum of terms whose exponents fall or stay, without changing these. The first ones, as many as formed says, are a form by themselves, of which no more is gone through than the other terms reach.
func (s *store) settle(terms []Term, formed int) []Term {
	var out []Term // the least exponent first
	var at N       // the exponent that is gone through
	count := 0     // how often its power is to be added
	left := len(terms)
	for left > formed || count != 0 {
		if count == 0 {
			at = terms[left-1].Exp
		}
		for left > 0 && terms[left-1].Exp == at {
			left--
			count += terms[left].sign()
		}
		if count%2 != 0 {
			sign := s.pick(count, at, terms[:left])
			out = append(out, Term{sign < 0, at})
			count -= sign
		}
		count /= 2
		if count != 0 {
			at = s.next(at)
		}
	}
	slices.Reverse(out)
	return slices.Concat(terms[:left], out)
}

// pick returns the sign of the term that is left at an exponent whose power is to be added an odd number of times. Both signs would do there; just one of them, with the terms ahead, leaves an even count, and so no term, at the next exponent.
func (s *store) pick(count int, at N, ahead []Term) int {
	i := len(ahead) - 1
	if i >= 0 && s.follows(at, ahead[i].Exp) {
		for next := ahead[i].Exp; i >= 0 && ahead[i].Exp == next; i-- {
			count += 2
		}
	}
	if count&2 == 0 {
		return 1
	}
	return -1
}
