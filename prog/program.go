package prog

// readProgram returns the statements of a program.
func readProgram(source string) []statement {
	r := readerOf(source)
	program := r.program()
	r.end()
	return program
}

// program reads statements up to the end of the block, or of the text.
func (r *reader) program() []statement {
	var program []statement
	for len(r.left) > 0 && r.left[0] != "}" {
		next := r.statement()
		program = append(program, next)
	}
	return program
}

// statement reads a statement.
func (r *reader) statement() statement {
	switch r.mark("print", "repeat", "if") {
	case "print":
		x := r.sum()
		r.need(";")
		return printing{x}
	case "repeat":
		count := r.sum()
		block := r.block()
		return repetition{count, block}
	case "if":
		return r.choice()
	}
	target := r.name()
	r.need("=")
	x := r.sum()
	r.need(";")
	return assignment{target, x}
}

// choice reads what follows an "if".
func (r *reader) choice() statement {
	left := r.sum()
	mark := r.need("<", "<=", "==", "!=")
	right := r.sum()
	then := r.block()
	var otherwise []statement
	if r.mark("else") != "" {
		otherwise = r.block()
	}
	return choice{mark, left, right, then, otherwise}
}

// block reads a block.
func (r *reader) block() []statement {
	r.need("{")
	r.enter()
	block := r.program()
	r.leave()
	r.need("}")
	return block
}
