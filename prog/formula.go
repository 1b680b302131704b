package prog

import (
	"strconv"

	"sandreckoner/api"
)

// readFormula returns the tree of a formula.
func readFormula(text string) node {
	r := readerOf(text)
	tree := r.sum()
	r.end()
	if len(tree.plain(nil)) > api.MaxSource {
		panic(api.ErrForm)
	}
	return tree
}

// sum reads a sum.
func (r *reader) sum() node {
	tree := r.product()
	for mark := r.mark("+", "-"); mark != ""; mark = r.mark("+", "-") {
		right := r.product()
		tree = operation{mark, tree, right}
	}
	return tree
}

// product reads a product.
func (r *reader) product() node {
	tree := r.sign()
	for mark := r.mark("*", "<<", ">>"); mark != ""; mark = r.mark("*", "<<", ">>") {
		right := r.sign()
		tree = operation{mark, tree, right}
	}
	return tree
}

// sign reads a sign.
func (r *reader) sign() node {
	mark := r.mark("-", "2^")
	if mark == "" {
		return r.part()
	}
	r.enter()
	operand := r.sign()
	r.leave()
	return sign{mark, operand}
}

// part reads what stands between signs and marks.
func (r *reader) part() node {
	if r.mark("(") != "" {
		r.enter()
		tree := r.sum()
		r.leave()
		r.need(")")
		return tree
	}
	part := r.take()
	switch {
	case isNumber(part):
		n, _ := strconv.ParseInt(part, 10, 64)
		return number(n)
	case isName(part):
		return name(part)
	case arity(part) > 0:
		return r.call(part)
	}
	panic(api.ErrForm)
}

// call reads the arguments of a function.
func (r *reader) call(function string) node {
	var arguments []node
	r.enter()
	for mark := r.need("("); mark != ")"; mark = r.need(",", ")") {
		argument := r.sum()
		arguments = append(arguments, argument)
	}
	r.leave()
	if len(arguments) != arity(function) {
		panic(api.ErrForm)
	}
	return call{function, arguments}
}
