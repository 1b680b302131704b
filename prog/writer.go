package prog

import (
	"strconv"

	"sandreckoner/api"
	"sandreckoner/num"
)

// maxDecimal is the greatest number whose text is its decimal digits.
const maxDecimal = 999_999_999_999_999_999

// writer writes the text of a number. It leaves as soon as the text is too long: the text of a number that has its exponents in common can be beyond all bounds.
type writer struct {
	text []byte
}

// put writes a piece of the text.
func (w *writer) put(piece string) {
	if len(w.text)+len(piece) > api.MaxSource {
		panic(api.ErrFull)
	}
	w.text = append(w.text, piece...)
}

// number writes a number.
func (w *writer) number(x num.N) {
	if digits, ok := decimal(x); ok {
		w.put(digits)
		return
	}
	for i, t := range x.Terms() {
		w.put(ahead(i == 0, t.Minus))
		w.put("2^")
		w.exponent(t.Exp)
	}
}

// exponent writes an exponent.
func (w *writer) exponent(x num.N) {
	if digits, ok := decimal(x); ok {
		w.put(digits)
		return
	}
	w.put("(")
	w.number(x)
	w.put(")")
}

// decimal returns the decimal digits of a number, if these are its text.
func decimal(x num.N) (string, bool) {
	n, ok := x.Int()
	if !ok || n < -maxDecimal || n > maxDecimal {
		return "", false
	}
	return strconv.FormatInt(n, 10), true
}

// ahead returns what stands ahead of a term.
func ahead(first, minus bool) string {
	switch {
	case first && minus:
		return "-"
	case first:
		return ""
	case minus:
		return " - "
	}
	return " + "
}
