package turn

import (
	"sandreckoner/num"
	"sandreckoner/rest"
)

// path is the states to which turns lead, the first one ahead, up to where one comes again.
type path[S comparable] struct {
	states []S // each once
	lead   int // the place of the one that comes again
}

// follow returns the path from a state on. There must be only so many states.
func follow[S comparable](first S, turn func(S) S) path[S] {
	var states []S
	places := map[S]int{}
	for s := first; ; s = turn(s) {
		if lead, again := places[s]; again {
			return path[S]{states, lead}
		}
		places[s] = len(states)
		states = append(states, s)
	}
}

// length returns behind how many turns the states of the cycle come again.
func (p path[S]) length() int {
	return len(p.states) - p.lead
}

// at returns the state behind so many turns, which are not negative.
func (p path[S]) at(times num.N) S {
	if n, ok := times.Int(); ok && n < int64(p.lead) {
		return p.states[n]
	}
	// The remainder cannot be refused: there are far fewer states than moduli.
	left, _ := rest.Rem(times, int64(p.length()))
	return p.states[p.lead+mod(int(left)-p.lead, p.length())]
}
