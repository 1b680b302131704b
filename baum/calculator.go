package baum

import (
	"sandreckoner/api"
	"sandreckoner/num"
	"sandreckoner/rest"
)

// calculator calculates the numbers of elements one after another, and leaves by panic with the first error. Only attempt makes one.
type calculator struct{}

// attempt returns what a calculator comes to, or the error with which it left.
func attempt[T any](calculate func(c calculator) T) (result T, err api.Errno) {
	defer func() {
		left := recover()
		if failed, ok := left.(api.Errno); ok {
			err = failed
		} else if left != nil {
			// No call may panic, nor tell a result that is not calculated.
			err = api.ErrFull
		}
	}()
	result = calculate(calculator{})
	return result, api.OK
}

// must returns a number, or leaves with its error.
func (calculator) must(x num.N, err api.Errno) num.N {
	if err != api.OK {
		panic(err)
	}
	return x
}

// add returns x + y.
func (c calculator) add(x, y num.N) num.N {
	return c.must(x.Add(y))
}

// sub returns x - y.
func (c calculator) sub(x, y num.N) num.N {
	return c.must(x.Sub(y))
}

// shift returns x * 2^y.
func (c calculator) shift(x, y num.N) num.N {
	return c.must(x.Shift(y))
}

// low returns how often x, which is not 0, can be halved.
func (c calculator) low(x num.N) num.N {
	return c.must(rest.Low(x))
}
