package baum

import (
	"bytes"
	"slices"

	"sandreckoner/api"
	"sandreckoner/num"
)

// product is a word as it is reduced: the letters b and B that are left, and plain elements ahead of each, and behind the last one.
type product struct {
	outer []byte
	inner []E
}

// remains is what is left of a word behind some steps.
type remains struct {
	steps []api.Pinch
	left  int
	end   E
}

// remains returns what is left of the product behind some steps.
func (p *product) remains(steps []api.Pinch) remains {
	if len(p.outer) > 0 {
		return remains{steps: steps, left: len(p.outer)}
	}
	return remains{steps: steps, end: p.inner[0]}
}

// isPinch reports whether there is a pinch at a place.
func (p *product) isPinch(at int) bool {
	if at < 0 || at >= len(p.outer)-1 || p.outer[at] == p.outer[at+1] {
		return false
	}
	g := p.inner[at+1]
	if p.outer[at] == 'B' {
		return g.U.Sign() == 0
	}
	return g.M.Sign() == 0 && (g.U.Sign() == 0 || g.V.Sign() >= 0)
}

// power returns the number that stands between the letters of a pinch.
func (c calculator) power(p *product, at int) num.N {
	g := p.inner[at+1]
	if p.outer[at] == 'B' {
		return g.M
	}
	return c.shift(g.U, g.V)
}

// pinch makes the pinch at a place, between whose letters k stands.
func (c calculator) pinch(p *product, at int, k num.N) {
	e := E{M: k}
	if p.outer[at] == 'B' {
		e = c.plain(k, num.Of(0), num.Of(0))
	}
	ahead, behind := p.inner[at], p.inner[at+2]
	p.inner[at] = c.mul(c.mul(ahead, e), behind)
	p.inner = slices.Delete(p.inner, at+1, at+3)
	p.outer = slices.Delete(p.outer, at, at+2)
}

// reduce makes the pinch at the least place, as long as there is one.
func (c calculator) reduce(p product) remains {
	var steps []api.Pinch
	for at := 0; at < len(p.outer); {
		if !p.isPinch(at) {
			at++
			continue
		}
		k := c.power(&p, at)
		c.pinch(&p, at, k)
		steps = append(steps, api.Pinch{At: at, Power: k.Bytes()})
		// Ahead of the pinch there was no other one, and only the element directly ahead of it is another one now.
		at = max(at-1, 0)
	}
	return p.remains(steps)
}

// follow makes some steps, one after another, or leaves with the error of the first one that cannot be made.
func (c calculator) follow(p product, steps []api.Pinch) remains {
	for _, step := range steps {
		if !p.isPinch(step.At) {
			panic(api.ErrArg)
		}
		k := c.power(&p, step.At)
		if !bytes.Equal(step.Power, k.Bytes()) {
			panic(api.ErrArg)
		}
		c.pinch(&p, step.At, k)
	}
	return p.remains(nil)
}
