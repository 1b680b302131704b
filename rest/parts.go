package rest

import "sandreckoner/num"

// enough is as great as a part has to be told: it is more than how often 2 divides any modulus.
const enough = 32

// parts are the parts of a number, told by their places in its bytes: there each part is listed once, in however many terms it is, and ahead of these.
type parts struct {
	bytes  []byte
	starts []int   // where each part begins
	sizes  []int64 // each part but the number itself, or enough if it is more
}

// partsOf returns the parts of a number.
func partsOf(x num.N) *parts {
	p := &parts{bytes: x.Bytes()}
	start := 2
	for place := range p.two(0) {
		p.starts = append(p.starts, start)
		p.sizes = append(p.sizes, p.size(place))
		start += 2 + 3*p.two(start)
	}
	return p
}

// two returns the number in two bytes.
func (p *parts) two(at int) int {
	return int(p.bytes[at])<<8 | int(p.bytes[at+1])
}

// last returns the place of the number itself.
func (p *parts) last() int {
	return len(p.starts) - 1
}

// each does something for each term of a part, the greatest one first: it is given the sign and the place of the exponent.
func (p *parts) each(place int, do func(minus bool, exp int)) {
	start := p.starts[place]
	for i := range p.two(start) {
		term := start + 2 + 3*i
		do(p.bytes[term] == 1, p.two(term+1))
	}
}

// size returns the part, or enough if it is more. The sizes of its exponents are known.
func (p *parts) size(place int) int64 {
	size := int64(0)
	p.each(place, func(minus bool, exp int) {
		power := int64(1) << p.sizes[exp]
		switch {
		case size >= 2*enough: // the other terms cannot make up for the first one
		case minus:
			size -= power
		default:
			size += power
		}
	})
	return min(size, enough)
}
