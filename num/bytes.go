package num

import "sandreckoner/api"

// Bytes returns the bytes of the number.
func (x N) Bytes() []byte {
	var s store
	parts, _ := x.parts()
	last := len(parts) - 1
	// The number itself stands last even if it is negative, and so less than its parts.
	parts = append(ordered(parts[:last], s.compare), x)
	out := appendTwo(nil, len(parts))
	places := map[N]int{}
	for place, part := range parts {
		places[part] = place
		terms := part.terms()
		out = appendTwo(out, len(terms))
		for _, t := range terms {
			sign := byte(0)
			if t.Minus {
				sign = 1
			}
			out = appendTwo(append(out, sign), places[t.Exp])
		}
	}
	return out
}

// appendTwo appends a number of two bytes, the greatest byte first.
func appendTwo(out []byte, n int) []byte {
	return append(out, byte(n>>8), byte(n))
}

// Load returns the number of some bytes.
func Load(b []byte) (N, api.Errno) {
	l := loader{left: b}
	count, ok := l.two()
	if !ok || count == 0 || count > api.MaxWeight {
		return N{}, api.ErrForm
	}
	for range count - 1 {
		part, ok := l.part()
		if !ok || !l.push(part) {
			return N{}, api.ErrForm
		}
	}
	x, ok := l.part()
	if !ok || len(l.left) > 0 || !x.allowed() {
		return N{}, api.ErrForm
	}
	// The parts ahead of x differ: if it has as many as there are, none is there in vain.
	if x.Weight() != count {
		return N{}, api.ErrForm
	}
	return x, api.OK
}

// loader reads the parts of a number, and keeps those that may be exponents.
type loader struct {
	store  store
	left   []byte
	parts  []N
	beside []bool // whether a part is one greater than the part ahead of it
}

// push adds a part, if it is greater than the one ahead of it.
func (l *loader) push(part N) bool {
	beside := false
	if len(l.parts) > 0 {
		ahead := l.parts[len(l.parts)-1]
		if l.store.compare(ahead, part) >= 0 {
			return false
		}
		beside = l.store.follows(ahead, part)
	}
	l.parts = append(l.parts, part)
	l.beside = append(l.beside, beside)
	return true
}

// part reads a part, if it is a form of the parts ahead of it.
func (l *loader) part() (N, bool) {
	count, ok := l.two()
	if !ok || count > api.MaxTerms {
		return N{}, false
	}
	var terms []Term
	above := len(l.parts)
	for range count {
		sign, signed := l.one()
		place, placed := l.two()
		if !signed || sign > 1 || !placed || place >= above {
			return N{}, false
		}
		// Only parts that stand side by side in the list can be neighbours.
		if len(terms) > 0 && place == above-1 && l.beside[above] {
			return N{}, false
		}
		terms = append(terms, Term{sign == 1, l.parts[place]})
		above = place
	}
	return l.store.keep(terms), true
}

// one reads a byte.
func (l *loader) one() (int, bool) {
	if len(l.left) < 1 {
		return 0, false
	}
	n := int(l.left[0])
	l.left = l.left[1:]
	return n, true
}

// two reads a number of two bytes.
func (l *loader) two() (int, bool) {
	high, _ := l.one()
	low, ok := l.one()
	return high<<8 | low, ok
}
