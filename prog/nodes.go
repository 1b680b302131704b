package prog

import (
	"strconv"

	"sandreckoner/api"
	"sandreckoner/num"
	"sandreckoner/rest"
)

// node is a formula, or a part of one.
type node interface {
	value(names map[string]Name) num.N // leaves with the first error that arises
	plain(text []byte) []byte          // the text with the plain text of the node behind it
	binds() int                        // how closely the node binds
	eachName(do func(name string))     // hands over the names, also those that are there several times
}

// How closely nodes bind: one that binds less than its place asks for stands in parentheses.
const (
	asSum = iota
	asProduct
	asSign
	asPart
)

// number is a number that is written out.
type number int64

// name stands for a value.
type name string

// sign is "-" or "2^" with its operand.
type sign struct {
	mark    string
	operand node
}

// operation is a mark between two operands.
type operation struct {
	mark        string
	left, right node
}

// call is a function with its arguments.
type call struct {
	function  string
	arguments []node
}

func (n number) value(map[string]Name) num.N {
	return num.Of(int64(n))
}

func (n name) value(names map[string]Name) num.N {
	named, ok := names[string(n)]
	if !ok {
		panic(api.ErrNone)
	}
	return must(named.Value, named.Err)
}

func (s sign) value(names map[string]Name) num.N {
	x := s.operand.value(names)
	if s.mark == "-" {
		return x.Neg()
	}
	return must(num.Of(1).Shift(x))
}

func (o operation) value(names map[string]Name) num.N {
	x := o.left.value(names)
	y := o.right.value(names)
	switch o.mark {
	case "+":
		return must(x.Add(y))
	case "-":
		return must(x.Sub(y))
	case "*":
		return must(x.Mul(y))
	case "<<":
		return must(x.Shift(y))
	}
	return must(rest.Floor(x, y))
}

func (c call) value(names map[string]Name) num.N {
	var values []num.N
	for _, argument := range c.arguments {
		values = append(values, argument.value(names))
	}
	return apply(c.function, values)
}

func (n number) binds() int {
	return asPart
}

func (n name) binds() int {
	return asPart
}

func (s sign) binds() int {
	return asSign
}

func (o operation) binds() int {
	if o.mark == "+" || o.mark == "-" {
		return asSum
	}
	return asProduct
}

func (c call) binds() int {
	return asPart
}

func (n number) plain(text []byte) []byte {
	return strconv.AppendInt(text, int64(n), 10)
}

func (n name) plain(text []byte) []byte {
	return append(text, n...)
}

func (s sign) plain(text []byte) []byte {
	return within(append(text, s.mark...), s.operand, asSign)
}

func (o operation) plain(text []byte) []byte {
	// What is calculated from the left needs no parentheses there.
	text = within(text, o.left, o.binds())
	text = append(text, " "+o.mark+" "...)
	return within(text, o.right, o.binds()+1)
}

func (c call) plain(text []byte) []byte {
	text = append(text, c.function+"("...)
	for i, argument := range c.arguments {
		if i > 0 {
			text = append(text, ", "...)
		}
		text = argument.plain(text)
	}
	return append(text, ')')
}

// within appends the plain text of a node at a place that asks for one that binds so closely.
func within(text []byte, n node, least int) []byte {
	if n.binds() >= least {
		return n.plain(text)
	}
	text = n.plain(append(text, '('))
	return append(text, ')')
}

func (n number) eachName(func(name string)) {}

func (n name) eachName(do func(name string)) {
	do(string(n))
}

func (s sign) eachName(do func(name string)) {
	s.operand.eachName(do)
}

func (o operation) eachName(do func(name string)) {
	o.left.eachName(do)
	o.right.eachName(do)
}

func (c call) eachName(do func(name string)) {
	for _, argument := range c.arguments {
		argument.eachName(do)
	}
}
