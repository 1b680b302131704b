package rest_test

import (
	"bytes"
	"testing"

	"sandreckoner/api"
	"sandreckoner/num"
	"sandreckoner/rest"
)

// P1: calls with the zero value of a number.
func TestZeroValues(t *testing.T) {
	var zero num.N
	if rem(t, zero, 1) != 0 || rem(t, zero, api.MaxMod) != 0 {
		t.Error("Rem of 0")
	}
	if b := good(rest.Bit(zero, zero))(t); b != 0 {
		t.Errorf("Bit of 0 at 0: %d", b)
	}
	same(t, "Floor of 0 by 1", good(rest.Floor(zero, zero))(t), zero)
	same(t, "Len of 0", good(rest.Len(zero))(t), zero)
	refuses(rest.Low(zero))(t, "Low of 0", api.ErrNone)
}

// P3, P4: no call changes its arguments, and calls tell the same again.
func TestArgumentsStay(t *testing.T) {
	numbers := towers(t, 31, 60)
	y := power(t, num.Of(100))
	for _, x := range numbers {
		before := x.Bytes()
		for range 2 {
			first, err := rest.Floor(x, y)
			again, errAgain := rest.Floor(x, y)
			if err != errAgain {
				t.Fatalf("error %d, then %d", err, errAgain)
			}
			same(t, "Floor again", again, first)
			same(t, "Len again", good(rest.Len(x))(t), good(rest.Len(x))(t))
			if rem(t, x, 1009) != rem(t, x, 1009) || good(rest.Lead(x, 9))(t) != good(rest.Lead(x, 9))(t) {
				t.Fatal("a result that is not the same again")
			}
			rest.Low(x)
			rest.Last(x, 9)
			rest.Bit(x, y)
		}
		if !bytes.Equal(x.Bytes(), before) {
			t.Fatal("a number has changed")
		}
	}
}

// P7: the values of the number, and how many paths lead through its parts, have no bearing on the time.
func TestTimeOfTangledNumbers(t *testing.T) {
	// Of ten numbers each one has eight of the ten ahead of it as its exponents: the paths through fifty layers are beyond counting.
	const width = 10
	var layer []num.N
	for i := range int64(width) {
		layer = append(layer, num.Of(1000+7*i))
	}
	for range 50 {
		var next []num.N
		for i := range width {
			var terms []num.Term
			for j := range width - 2 {
				terms = append(terms, num.Term{Minus: j%3 == 2, Exp: layer[(i+j)%width]})
			}
			next = append(next, absolute(good(num.Sum(terms))(t)))
		}
		layer = next
	}
	x := layer[0]
	for _, m := range []int64{deep, api.MaxMod, 1<<31 - 1, deep / 3 * 4, 999999937} {
		r := rem(t, x, m)
		if twice := rem(t, good(x.Add(x))(t), m); twice != 2*r%m {
			t.Errorf("by %d: %d, but %d twice", m, r, twice)
		}
		for _, d := range []int64{2, 3, 4, 12, 243} {
			if m%d == 0 && r%d != slowRem(x, d) {
				t.Errorf("by %d: %d, but %d by %d", m, r, slowRem(x, d), d)
			}
		}
	}
	checkTangled(t, x)
}

// checkTangled checks the laws of digits and lengths for a number whose exponents are great.
func checkTangled(t *testing.T, x num.N) {
	t.Helper()
	n := good(rest.Len(x))(t)
	top := plus(t, n, -1)
	if good(rest.Bit(x, n))(t) != 0 || good(rest.Bit(x, top))(t) != 1 {
		t.Error("the first digits")
	}
	same(t, "the first digit", good(rest.Floor(x, top))(t), num.Of(1))
	low := good(rest.Low(x))(t)
	if good(rest.Bit(x, low))(t) != 1 || good(rest.Bit(x, plus(t, low, -1)))(t) != 0 {
		t.Error("the last digits")
	}
	q := good(rest.Floor(x, low))(t)
	same(t, "all but the zeros", good(q.Shift(low))(t), x)
	same(t, "the first digits", num.Of(good(rest.Lead(x, 60))(t)), good(rest.Floor(x, plus(t, n, -60)))(t))
}
