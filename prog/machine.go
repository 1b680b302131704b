package prog

import (
	"sandreckoner/api"
	"sandreckoner/num"
)

// machine is what a program has come to. It leaves with the error that ends the program.
type machine struct {
	values  map[string]Name
	printed []string
	steps   int
}

// statement is a statement of a program.
type statement interface {
	run(m *machine)
}

// assignment gives a name a value.
type assignment struct {
	name string
	sum  node
}

// printing prints a value.
type printing struct {
	sum node
}

// repetition runs a block so many times.
type repetition struct {
	count node
	block []statement
}

// choice runs one of two blocks.
type choice struct {
	mark            string
	left, right     node
	then, otherwise []statement
}

// step counts a step, if there may be one more.
func (m *machine) step() {
	if m.steps == api.MaxSteps {
		panic(api.ErrSteps)
	}
	m.steps++
}

// run runs statements.
func (m *machine) run(statements []statement) {
	for _, s := range statements {
		m.step()
		s.run(m)
	}
}

func (a assignment) run(m *machine) {
	x := a.sum.value(m.values)
	m.values[a.name] = Name{Name: a.name, Value: x}
}

func (p printing) run(m *machine) {
	x := p.sum.value(m.values)
	text := must(Print(x))
	m.printed = append(m.printed, text)
}

func (r repetition) run(m *machine) {
	count := r.count.value(m.values)
	if count.Sign() < 0 {
		panic(api.ErrArg)
	}
	if len(r.block) == 0 {
		return
	}
	for range turns(count) {
		m.step()
		m.run(r.block)
	}
}

func (c choice) run(m *machine) {
	x := c.left.value(m.values)
	y := c.right.value(m.values)
	if holds(c.mark, x.Cmp(y)) {
		m.run(c.then)
	} else {
		m.run(c.otherwise)
	}
}

// turns returns a count that is not negative, or a lesser one that uses up all steps, too.
func turns(count num.N) int64 {
	n, ok := count.Int()
	if !ok {
		return api.MaxSteps + 1
	}
	return n
}

// holds reports whether a test holds for numbers that compare so.
func holds(mark string, order int) bool {
	switch mark {
	case "<":
		return order < 0
	case "<=":
		return order <= 0
	case "==":
		return order == 0
	}
	return order != 0
}
