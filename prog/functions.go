package prog

import (
	"sandreckoner/api"
	"sandreckoner/num"
	"sandreckoner/rest"
)

// arity returns how many arguments a function has, or 0 for a word that is no function's name.
func arity(word string) int {
	switch word {
	case "len", "low", "abs", "tower":
		return 1
	case "rem", "bit", "min", "max":
		return 2
	}
	return 0
}

// apply returns the value of a function, or leaves with its error. There are as many arguments as the function has.
func apply(function string, arguments []num.N) num.N {
	x, y := arguments[0], arguments[len(arguments)-1]
	switch function {
	case "rem":
		return remainder(x, y)
	case "bit":
		return num.Of(int64(must(rest.Bit(x, y))))
	case "len":
		return must(rest.Len(x))
	case "low":
		return must(rest.Low(x))
	case "abs":
		return greater(x, x.Neg())
	case "min":
		return lesser(x, y)
	case "max":
		return greater(x, y)
	}
	return tower(x)
}

// remainder returns the remainder of x by m.
func remainder(x, m num.N) num.N {
	n, ok := m.Int()
	if !ok {
		panic(api.ErrArg)
	}
	return num.Of(must(rest.Rem(x, n)))
}

// lesser returns the lesser one of two numbers.
func lesser(x, y num.N) num.N {
	if x.Cmp(y) < 0 {
		return x
	}
	return y
}

// greater returns the greater one of two numbers.
func greater(x, y num.N) num.N {
	if x.Cmp(y) > 0 {
		return x
	}
	return y
}

// tower returns a tower of so many powers of two.
func tower(levels num.N) num.N {
	n, ok := levels.Int()
	if !ok || n < 0 || n > api.MaxHeight {
		panic(api.ErrArg)
	}
	x := num.Of(1)
	for range n {
		x = must(num.Of(1).Shift(x))
	}
	return x
}
