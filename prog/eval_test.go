package prog_test

import (
	"math/big"
	"testing"

	"sandreckoner/api"
	"sandreckoner/num"
	"sandreckoner/prog"
)

// given are some names with values, and with an error.
func given() []prog.Name {
	return []prog.Name{
		{Name: "x", Value: num.Of(5)}, {Name: "y", Value: num.Of(-7)}, {Name: "bad", Err: api.ErrOrder},
		{Name: "x", Value: num.Of(6)}, {Name: "x", Err: api.ErrSteps}, {Name: "bad", Value: num.Of(1)},
		{Name: "rem", Value: num.Of(1)}, {Name: "", Value: num.Of(1)}, {Name: "odd", Value: num.Of(3), Err: 99},
	}
}

// P3.2, P3.3: what formulas mean.
func TestEval(t *testing.T) {
	for formula, want := range map[string]int64{
		"2^2^3 - 7 * 2": 242, "-2^3": -8, "1 - 2 - 3": -4, "7 >> 1 << 1": 6, "tower(4)": 65536, "rem(2^(2^64), 7)": 2, "bit(-1, 2^100)": 1, "low(12) + len(12)": 6, "min(-1, 2^9) - max(1, 2)": -3,
		"0": 0, "999999999999999999": 999999999999999999, "2": 2, "2^0": 1, "(7)": 7, "-0": 0, "--5": 5, "---5": -5,
		"1 - (2 - 3)": 2, "2 * 3 + 4": 10, "2 + 3 * 4": 14, "(2 + 3) * 4": 20, "2 * -3": -6, "2 - -3": 5, "-2 * 3": -6, "-(2 * 3)": -6, "2^3 * 5": 40, "2^(3 * 2)": 64, "2^3 + 1": 9, "2^-0": 1, "2^(1 - 1)": 1,
		"1 << 3 << 2": 32, "1 << (3 - 1)": 4, "100 >> 3 >> 2": 3, "2 * 3 << 4 * 5": 480, "3 << 2 * 5": 60, "5 * 3 >> 1": 7, "1 + 1 << 3": 9, "(1 + 1) << 3": 16,
		"12 << -2": 3, "0 << -2^100": 0, "-12 << -2": -3, "-7 >> 1": -4, "-1 >> 2^100": -1, "7 >> 2^2^100": 0, "-8 >> 3": -1, "7 >> 0": 7,
		"rem(-7, 5)": 3, "rem(7, 1)": 0, "rem(-1, 2^31)": 1<<31 - 1, "bit(5, 0)": 1, "bit(5, 1)": 0, "bit(5, 2^100)": 0, "bit(-2, 0)": 0, "len(0)": 0, "len(-8)": 4, "len(7)": 3, "low(1)": 0, "low(-12)": 2,
		"abs(0)": 0, "abs(-3)": 3, "abs(3)": 3, "min(2, 2)": 2, "min(2, 1)": 1, "min(-2^100, 1) + 2^100": 0, "max(-3, -2)": -2, "max(2^100, 2^101) >> 101": 1, "max(1, 1)": 1,
		"tower(0)": 1, "tower(1)": 2, "tower(2)": 4, "tower(3)": 16, "tower(2 * 2 - 2)": 4,
		"x": 5, "x + y": -2, "x * x": 25, "2^x": 32, "-x": -5, "min(x, y)": -7, "x << x": 160,
	} {
		same(t, formula, eval(t, formula, given()...), num.Of(want))
	}
}

// P3.3: great values.
func TestEvalOfTowers(t *testing.T) {
	hundred := power(t, num.Of(100))
	great := power(t, hundred)
	for formula, want := range map[string]num.N{
		"2^2^100":                       great,
		"2^2^100 - 1":                   plus(t, great, -1),
		"-2^2^100":                      great.Neg(),
		"abs(1 - 2^2^100)":              plus(t, great, -1),
		"(2^100 + 1) * (2^100 - 1) + 1": power(t, num.Of(200)),
		"len(2^2^100)":                  plus(t, hundred, 1),
		"low(2^2^100 * 4)":              plus(t, hundred, 2),
		"2^2^100 >> 2^100 - 0":          num.Of(1),
		"3 << 2^100":                    good(num.Of(3).Shift(hundred))(t),
		"1 << x":                        great,
		"x * y + 1":                     plus(t, power(t, num.Of(105)), 1),
		"tower(99)":                     towerOf(t, 99, num.Of(1)),
		"tower(6) - tower(6)":           num.Of(0),
		"tower(6) >> (tower(5) - 1)":    num.Of(2),
		"2^63 * -1":                     num.Of(-1 << 63),
	} {
		same(t, formula, eval(t, formula, prog.Name{Name: "x", Value: hundred}, prog.Name{Name: "y", Value: num.Of(32)}), want)
	}
}

// P3.3: the errors of operations, functions and names.
func TestEvalErrors(t *testing.T) {
	for formula, want := range map[string]api.Errno{
		"z": api.ErrNone, "bad": api.ErrOrder, "odd": 99, "2 * bad": api.ErrOrder,
		"rem(5, 0)": api.ErrArg, "rem(5, -1)": api.ErrArg, "rem(5, 2^31 + 1)": api.ErrArg, "rem(5, 2^100)": api.ErrArg, "rem(5, -2^100)": api.ErrArg, "rem(5, 2^63)": api.ErrArg, "rem(5, 2^64 + 3)": api.ErrArg,
		"bit(1, -1)": api.ErrArg, "bit(0, -2^100)": api.ErrArg, "1 >> -1": api.ErrArg, "0 >> -2^100": api.ErrArg,
		"tower(-1)": api.ErrArg, "tower(101)": api.ErrArg, "tower(2^100)": api.ErrArg, "tower(-2^100)": api.ErrArg, "tower(2^64)": api.ErrArg, "tower(100)": api.ErrFull,
		"2^-1": api.ErrRange, "2^-2^100": api.ErrRange, "3 << -1": api.ErrRange, "2^100 << -101": api.ErrRange, "1 << -2^100": api.ErrRange,
		"low(0)": api.ErrNone, "2^tower(99)": api.ErrFull, "1 << tower(99)": api.ErrFull, "tower(99) << tower(99) - tower(98) << 1 << tower(99)": api.ErrFull,
	} {
		fails(t, formula, want, given()...)
	}
	fails(t, "a + 1", api.ErrFull, prog.Name{Name: "a", Value: spread(t, api.MaxTerms, 2)})
	fails(t, "1 - a", api.ErrFull, prog.Name{Name: "a", Value: spread(t, api.MaxTerms, 2)})
	fails(t, "a * a", api.ErrFull, prog.Name{Name: "a", Value: spread(t, 101, 2)})
	fails(t, "len(a)", api.ErrFull, prog.Name{Name: "a", Value: power(t, spread(t, api.MaxTerms, 2))})
	fails(t, "2^a >> 1", api.ErrFull, prog.Name{Name: "a", Value: spread(t, api.MaxTerms, 2)})
	same(t, "0 * a", eval(t, "0 * a", prog.Name{Name: "a", Value: spread(t, api.MaxTerms, 2)}), num.Of(0))
}

// P3.3: the first error that arises ends it: operands from the left, then the operation; arguments, then the function.
func TestOrderOfErrors(t *testing.T) {
	for formula, want := range map[string]api.Errno{
		"1 >> -1 + x": api.ErrArg, "x + 1 >> -1": api.ErrNone, "(1 >> -1) + x": api.ErrArg, "1 >> -x": api.ErrNone,
		"low(0) + 2^-1": api.ErrNone, "2^-1 + low(0)": api.ErrRange, "2^-1 * tower(-1)": api.ErrRange, "tower(-1) * 2^-1": api.ErrArg,
		"rem(x, 0)": api.ErrNone, "rem(2^-1, 0)": api.ErrRange, "rem(1, 2^-1)": api.ErrRange, "rem(bad, x)": api.ErrOrder, "rem(x, bad)": api.ErrNone, "bit(bad, -1)": api.ErrOrder,
		"x >> -1": api.ErrNone, "2^x >> low(0)": api.ErrNone, "bad >> -1": api.ErrOrder, "1 >> bad": api.ErrOrder, "1 << -1 << bad": api.ErrRange, "1 << (-1 << bad)": api.ErrOrder,
		"2^(2^-1 + bad)": api.ErrRange, "-(bad + x)": api.ErrOrder, "min(1, x + bad)": api.ErrNone, "max(bad, x)": api.ErrOrder, "0 * bad": api.ErrOrder, "0 << bad": api.ErrOrder,
		"tower(100) + bad": api.ErrFull, "bad + tower(100)": api.ErrOrder, "1 - 2 - bad - x": api.ErrOrder, "1 - (2 - x) - bad": api.ErrNone,
		"1 >> -1 + rem(1)": api.ErrForm, "bad + len(1, 2)": api.ErrForm, "bad +": api.ErrForm, "bad + A": api.ErrForm, "low(0) )": api.ErrForm,
	} {
		fails(t, formula, want, prog.Name{Name: "bad", Err: api.ErrOrder}, prog.Name{Name: "bad", Err: api.ErrSteps})
	}
	for _, err := range []api.Errno{api.ErrArg, api.ErrForm, api.ErrNone, api.ErrRange, api.ErrFull, api.ErrOrder, api.ErrSteps, -1, 1000} {
		fails(t, "1 + bad", err, prog.Name{Name: "bad", Value: num.Of(7), Err: err})
	}
	same(t, "what is not reached", eval(t, "1 + a", prog.Name{Name: "b", Err: api.ErrArg}, prog.Name{Name: "a", Value: num.Of(2)}), num.Of(3))
}

// P3.3, T4: random formulas mean what whole numbers mean.
func TestEvalOfRandomFormulas(t *testing.T) {
	s := newSampler(51)
	m := model{
		values: map[string]*big.Int{"a": big.NewInt(3), "b": new(big.Int).Lsh(big.NewInt(-5), 90), "abcdefgh": big.NewInt(31), "lens": big.NewInt(-1)},
		errs:   map[string]api.Errno{"bad": api.ErrOrder},
	}
	names := []prog.Name{{Name: "bad", Err: api.ErrOrder}}
	for name, n := range m.values {
		names = append(names, prog.Name{Name: name, Value: fromBig(t, n)})
	}
	counts := map[api.Errno]int{}
	for range 8000 {
		f := s.tree(1 + s.Intn(4))
		text := s.source(f)
		want, err, ok := m.value(f)
		if !ok || len(text) > 1000 {
			continue
		}
		counts[err]++
		if err != api.OK {
			fails(t, text, err, names...)
			continue
		}
		same(t, text, eval(t, text, names...), fromBig(t, want))
		same(t, f.plain(), eval(t, f.plain(), names...), fromBig(t, want))
	}
	for _, err := range []api.Errno{api.OK, api.ErrArg, api.ErrNone, api.ErrRange, api.ErrOrder} {
		if counts[err] < 100 {
			t.Errorf("only %d with the error %d", counts[err], err)
		}
	}
}

// P3.3, T4: formulas with great values keep the laws of whole numbers.
func TestEvalLaws(t *testing.T) {
	numbers := towers(t, 52, 120)
	s := newSampler(53)
	for range 600 {
		names := []prog.Name{{Name: "x", Value: numbers[s.Intn(len(numbers))]}, {Name: "y", Value: numbers[s.Intn(len(numbers))]}, {Name: "m", Value: num.Of(1 + s.Int63n(1000))}}
		for _, law := range [][2]string{
			{"x - y", "-(y - x)"}, {"x + y - y", "x"}, {"(x + 1) * y", "x * y + y"}, {"x << 3", "x * 8"}, {"(x << abs(y)) >> abs(y)", "x"}, {"x", "(x >> 1) * 2 + bit(x, 0)"},
			{"min(x, y) + max(x, y)", "x + y"}, {"abs(x)", "max(x, -x)"}, {"rem(x + y, m)", "rem(rem(x, m) + rem(y, m), m)"}, {"len(x)", "len(-x)"}, {"x * 2^abs(y)", "x << abs(y)"},
		} {
			left, err := prog.Eval(law[0], names)
			right, errRight := prog.Eval(law[1], names)
			if err == api.OK && errRight == api.OK {
				same(t, law[0]+" and "+law[1], left, right)
			}
		}
		same(t, "rem", eval(t, "rem(x, 97)", names...), rem(t, names[0].Value, 97))
	}
}
