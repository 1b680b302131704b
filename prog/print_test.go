package prog_test

import (
	"math"
	"strings"
	"testing"

	"sandreckoner/api"
	"sandreckoner/num"
	"sandreckoner/prog"
)

// checkPrint checks the text of a number, and that it is read back.
func checkPrint(t *testing.T, x num.N, want string) {
	t.Helper()
	if text := good(prog.Print(x))(t); text != want {
		t.Errorf("%q, not %q", text, want)
	}
	same(t, want, eval(t, want), x)
}

// P3.1: numbers of up to 18 digits are printed in decimal, others as their terms.
func TestPrint(t *testing.T) {
	const limit = 1_000_000_000_000_000_000
	hundred := power(t, num.Of(100))
	checkPrint(t, num.Of(0), "0")
	checkPrint(t, num.Of(-1), "-1")
	checkPrint(t, num.Of(10), "10")
	checkPrint(t, num.Of(limit-1), "999999999999999999")
	checkPrint(t, num.Of(1-limit), "-999999999999999999")
	checkPrint(t, num.Of(1<<59), "576460752303423488")
	checkPrint(t, num.Of(1<<60), "2^60")
	checkPrint(t, num.Of(-1<<60), "-2^60")
	checkPrint(t, num.Of(1<<60-1), "2^60 - 2^0")
	checkPrint(t, num.Of(math.MaxInt64), "2^63 - 2^0")
	checkPrint(t, num.Of(math.MinInt64), "-2^63")
	checkPrint(t, plus(t, hundred.Neg(), 3), "-2^100 + 2^2 - 2^0")
	checkPrint(t, plus(t, hundred, 5), "2^100 + 2^2 + 2^0")
	for _, x := range []num.N{num.Of(limit), num.Of(-limit)} {
		if text := good(prog.Print(x))(t); !strings.Contains(text, "2^") {
			t.Errorf("%q", text)
		}
	}
}

// P3.1: an exponent stands in parentheses just if it is printed as terms.
func TestPrintOfExponents(t *testing.T) {
	hundred := power(t, num.Of(100))
	checkPrint(t, power(t, num.Of(999_999_999_999_999_999)), "2^999999999999999999")
	checkPrint(t, power(t, num.Of(1<<60)), "2^(2^60)")
	checkPrint(t, power(t, num.Of(1<<60-1)), "2^(2^60 - 2^0)")
	checkPrint(t, power(t, hundred), "2^(2^100)")
	checkPrint(t, plus(t, power(t, hundred), -1), "2^(2^100) - 2^0")
	checkPrint(t, power(t, plus(t, power(t, hundred), 4)).Neg(), "-2^(2^(2^100) + 2^2)")
	checkPrint(t, eval(t, "-2^2^100 - 2^100"), "-2^(2^100) - 2^100")
	checkPrint(t, towerOf(t, 3, num.Of(65536)), "2^(2^(2^65536))")
	if text := good(prog.Print(power(t, num.Of(1_000_000_000_000_000_000))))(t); !strings.HasPrefix(text, "2^(2^60 - ") {
		t.Errorf("the exponent 10^18: %q", text)
	}
}

// longText returns a number whose text has so many bytes, from 3997 to 4197, and a minus sign ahead, if minus is set.
func longText(t *testing.T, length int, minus bool) num.N {
	t.Helper()
	var terms []num.Term
	for i := range int64(200) {
		exp := 100_000_000_000_000 + 1000*i
		if int(i) < length-3997 {
			exp *= 10
		}
		terms = append(terms, num.Term{Minus: minus, Exp: num.Of(exp)})
	}
	return good(num.Sum(terms))(t)
}

// P3.1: a text of just MaxSource bytes is returned, a longer one is not.
func TestPrintLimit(t *testing.T) {
	for length := 3997; length < 4010; length++ {
		x := longText(t, length, false)
		text, err := prog.Print(x)
		if length > api.MaxSource {
			if err != api.ErrFull || text != "" {
				t.Errorf("%d bytes: error %d and %q", length, err, text)
			}
			continue
		}
		if err != api.OK || len(text) != length {
			t.Errorf("%d bytes: error %d and %d bytes", length, err, len(text))
		}
		same(t, "read back", eval(t, text), x)
	}
	if text := good(prog.Print(longText(t, 3999, true)))(t); len(text) != api.MaxSource {
		t.Errorf("with a minus sign: %d bytes", len(text))
	}
	if text, err := prog.Print(longText(t, 4000, true)); err != api.ErrFull || text != "" {
		t.Errorf("with a minus sign: error %d and %q", err, text)
	}
}

// P3.1, P7: exponents that a number has in common are written out each time, and a text beyond all bounds is refused at once.
func TestPrintOfSharedExponents(t *testing.T) {
	x := power(t, num.Of(100))
	want := "2^100"
	for range 7 {
		x = good(power(t, x).Add(power(t, plus(t, x, 2))))(t)
		want = "2^(" + want + " + 2^1) + 2^(" + want + ")"
		checkPrint(t, x, want)
	}
	for range 40 {
		x = good(power(t, x).Add(power(t, plus(t, x, 2))))(t)
	}
	if text, err := prog.Print(x); err != api.ErrFull || text != "" {
		t.Errorf("error %d and %d bytes", err, len(text))
	}
	if text, err := prog.Print(x.Neg()); err != api.ErrFull || text != "" {
		t.Errorf("error %d and %d bytes", err, len(text))
	}
}

// T4: what is printed is read back as the same number, also from its plain text.
func TestPrintIsReadBack(t *testing.T) {
	numbers := towers(t, 31, 400)
	numbers = append(numbers, towerOf(t, api.MaxHeight-1, num.Of(1)), towerOf(t, api.MaxHeight-1, num.Of(1)).Neg(), spread(t, api.MaxTerms, 1000), spread(t, api.MaxTerms, 1000).Neg())
	numbers = append(numbers, towerOf(t, 90, spread(t, 40, 70)))
	texts, numbersTold := map[string]bool{}, map[string]bool{}
	for _, x := range numbers {
		text, err := prog.Print(x)
		if err == api.ErrFull { // TestPrintLimit tells when that may be
			continue
		}
		same(t, text, eval(t, text), x)
		same(t, text, eval(t, good(prog.Plain(text))(t)), x)
		texts[text] = true
		numbersTold[string(x.Bytes())] = true
	}
	if len(texts) != len(numbersTold) || len(texts) < 300 {
		t.Errorf("%d texts of %d numbers", len(texts), len(numbersTold))
	}
}
