package higman

import "sandreckoner/api"

// remains is what is left of a word behind some steps.
type remains struct {
	steps []api.Handing
	left  int
	end   []api.Power
}

// given returns the powers that the factor at a place is, if it can be handed over.
func (c *calculator) given(factors []factor, at int) ([]power, bool) {
	if at < 0 || at >= len(factors) || len(factors) < 2 {
		return nil, false
	}
	return c.powers(factors[at].product)
}

// reduce hands over the factor at the least place that has one to be handed over, as long as there is one.
func (c *calculator) reduce(factors []factor) (remains, api.Errno) {
	var stack []factor
	var steps []api.Handing
	hand := func(at int) bool {
		list, ok := c.given(stack, at)
		if ok {
			steps = append(steps, api.Handing{At: at, Powers: told(list)})
			stack = c.handOver(stack, at, list)
		}
		return ok
	}
	for _, f := range factors {
		stack = append(stack, f)
		// None of those further down can be handed over: they were tried before.
		hand(len(stack) - 2)
	}
	for hand(len(stack) - 1) {
	}
	return c.remains(stack, steps)
}

// follow makes some steps, one after another, unless one of them cannot be made.
func (c *calculator) follow(factors []factor, steps []api.Handing) (remains, api.Errno) {
	for _, step := range steps {
		list, ok := c.given(factors, step.At)
		if !ok || !same(told(list), step.Powers) {
			c.note(api.ErrArg)
			break
		}
		factors = c.handOver(factors, step.At, list)
	}
	return c.remains(factors, nil)
}

// remains returns what is left behind some steps, or the error that has arisen.
func (c *calculator) remains(factors []factor, steps []api.Handing) (remains, api.Errno) {
	r := remains{steps: steps, left: len(factors)}
	if len(factors) == 1 {
		if list, ok := c.powers(factors[0].product); ok {
			r.left, r.end = 0, told(list)
		}
	}
	if c.err != api.OK {
		return remains{}, c.err
	}
	return r, api.OK
}
