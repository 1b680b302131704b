package num_test

import (
	"bytes"
	"math/rand"
	"slices"
	"testing"

	"sandreckoner/api"
	"sandreckoner/num"
)

// moduli are those by which towers are checked.
var moduli = []int64{1, 2, 7, 10, 97, 360, 1009}

// towers makes numbers one from another, by all calls in turn, and checks each one by its remainders.
func towers(t *testing.T, seed int64, count int) []num.N {
	t.Helper()
	r := rand.New(rand.NewSource(seed))
	numbers := []num.N{num.Of(1), num.Of(2), num.Of(-3), power(t, num.Of(100))}
	for len(numbers) < count {
		x, y := numbers[r.Intn(len(numbers))], numbers[r.Intn(len(numbers))]
		var z num.N
		var e api.Errno
		var want func(m int64) int64
		switch r.Intn(5) {
		case 0:
			z, e = x.Add(y)
			want = func(m int64) int64 { return remainder(x, m) + remainder(y, m) }
		case 1:
			z, e = x.Sub(y)
			want = func(m int64) int64 { return remainder(x, m) - remainder(y, m) }
		case 2:
			z, e = x.Mul(y)
			want = func(m int64) int64 { return remainder(x, m) * remainder(y, m) }
		case 3:
			z, e = x.Shift(y)
			want = func(m int64) int64 { return shiftedRemainder(x, y, m) }
		default:
			z, e = x.Add(num.Of(int64(r.Intn(9) - 4)))
			want = nil
		}
		if e != api.OK || z.Weight() > 60 || z.Height() > 15 || len(z.Terms()) > 20 {
			continue
		}
		wellFormed(t, z)
		for _, m := range moduli {
			if want != nil && remainder(z, m) != (want(m)%m+m)%m {
				t.Fatalf("number %d leaves %d by %d", len(numbers), remainder(z, m), m)
			}
		}
		numbers = append(numbers, z)
	}
	return numbers
}

// shiftedRemainder returns the remainder of x * 2^y, term by term, or -1 if a term cannot be shifted.
func shiftedRemainder(x, y num.N, m int64) int64 {
	sum := int64(0)
	for _, t := range x.Terms() {
		e, f := t.Exp.Add(y)
		p, g := num.Sum([]num.Term{{Minus: t.Minus, Exp: e}})
		if f != api.OK || g != api.OK {
			return -1
		}
		sum += remainder(p, m)
	}
	return sum
}

// T1, T2: the laws of whole numbers, and that numbers are equal just if their bytes are.
func TestLawsOfTowers(t *testing.T) {
	numbers := towers(t, 21, 250)
	r := rand.New(rand.NewSource(22))
	for range 700 {
		x, y, z := numbers[r.Intn(len(numbers))], numbers[r.Intn(len(numbers))], numbers[r.Intn(len(numbers))]
		checkOrder(t, x, y)
		same(t, "x + y = y + x", good(x.Add(y))(t), good(y.Add(x))(t))
		same(t, "(x + y) + z = x + (y + z)", good(good(x.Add(y))(t).Add(z))(t), good(x.Add(good(y.Add(z))(t)))(t))
		same(t, "x - y = -(y - x)", good(x.Sub(y))(t), good(y.Sub(x))(t).Neg())
		same(t, "(x - y) + y = x", good(good(x.Sub(y))(t).Add(y))(t), x)
		xy, e := x.Mul(y)
		yx, f := y.Mul(x)
		if e != f {
			t.Fatalf("x y: %d, y x: %d", e, f)
		}
		same(t, "x y = y x", xy, yx)
		xz, g := x.Mul(z)
		xs, h := x.Mul(good(y.Add(z))(t))
		if e == api.OK && g == api.OK && h == api.OK {
			if sum, e := xy.Add(xz); e == api.OK {
				same(t, "x y + x z = x (y + z)", sum, xs)
			}
		}
		if s, e := x.Shift(y); e == api.OK && s.Sign() != 0 {
			same(t, "x 2^y 2^-y = x", good(s.Shift(y.Neg()))(t), x)
		}
	}
}

// checkOrder compares the order of two numbers with the sign of their difference, and with their bytes.
func checkOrder(t *testing.T, x, y num.N) {
	t.Helper()
	order := x.Cmp(y)
	if order != good(x.Sub(y))(t).Sign() || order != -y.Cmp(x) {
		t.Fatalf("the order is %d", order)
	}
	if (order == 0) != bytes.Equal(x.Bytes(), y.Bytes()) {
		t.Fatalf("the order is %d, with the bytes %v and %v", order, x.Bytes(), y.Bytes())
	}
	same(t, "Load of Bytes", good(num.Load(x.Bytes()))(t), x)
}

// P1: calls with no number at all, and with what is nearly none.
func TestZeroValues(t *testing.T) {
	var zero num.N
	if zero.Sign() != 0 || zero.Cmp(zero) != 0 || zero.Weight() != 1 || zero.Height() != 0 || len(zero.Terms()) != 0 {
		t.Error("the zero value is not 0")
	}
	same(t, "-0", zero.Neg(), zero)
	same(t, "0 + 0", good(zero.Add(zero))(t), zero)
	same(t, "0 - 0", good(zero.Sub(zero))(t), zero)
	same(t, "0 * 0", good(zero.Mul(zero))(t), zero)
	same(t, "0 << 0", good(zero.Shift(zero))(t), zero)
	same(t, "2^0", good(num.Sum([]num.Term{{}}))(t), num.Of(1))
	same(t, "-2^0", good(num.Sum([]num.Term{{Minus: true}}))(t), num.Of(-1))
}

// P3, P4: no call changes its arguments, and calls tell the same again.
func TestArgumentsStay(t *testing.T) {
	numbers := towers(t, 31, 60)
	var before [][]byte
	for _, x := range numbers {
		before = append(before, x.Bytes())
	}
	for _, x := range numbers {
		for _, y := range numbers {
			a, e := x.Add(y)
			b, f := x.Add(y)
			if e != f || !bytes.Equal(a.Bytes(), b.Bytes()) {
				t.Fatal("a sum that is not the same again")
			}
			x.Mul(y)
			x.Shift(y)
			x.Cmp(y)
		}
		x.Neg()
	}
	for i, x := range numbers {
		if !bytes.Equal(x.Bytes(), before[i]) {
			t.Fatalf("number %d is another one", i)
		}
	}
	p := power(t, num.Of(100))
	terms := []num.Term{{Exp: num.Of(1)}, {Exp: p}, {Exp: p}, {Minus: true, Exp: num.Of(1)}, {Exp: num.Of(0)}}
	kept := slices.Clone(terms)
	x := good(num.Sum(terms))(t)
	for i := range terms {
		if terms[i] != kept[i] { // not even another value of the same number is put there
			t.Errorf("Sum has changed term %d", i)
		}
	}
	b := x.Bytes()
	clear(terms)
	if !bytes.Equal(x.Bytes(), b) {
		t.Error("Sum has kept its argument")
	}
	image := slices.Clone(b)
	good(num.Load(image))(t)
	if !bytes.Equal(image, b) {
		t.Error("Load has changed its argument")
	}
}

// P7: the values of these numbers, and how many paths lead through their parts, have no bearing on the time.
func TestTimeOfTangledNumbers(t *testing.T) {
	// Each part has the two ahead of it as its exponents: the paths through forty of them are millions.
	tangle := func() num.N {
		x, y := power(t, num.Of(100)), power(t, num.Of(200))
		for range 40 {
			x, y = y, good(power(t, y).Add(power(t, x)))(t)
		}
		return y
	}
	x, y := tangle(), tangle()
	same(t, "x", x, y)
	more := good(x.Add(num.Of(1)))(t)
	if more.Cmp(y) != 1 {
		t.Error("x + 1 is not greater than x")
	}
	same(t, "(x + 1) (x - 1)", good(more.Mul(good(y.Sub(num.Of(1)))(t)))(t), good(good(x.Mul(y))(t).Sub(num.Of(1)))(t))
	same(t, "Load of Bytes", good(num.Load(x.Bytes()))(t), y)
	same(t, "x << y >> x", good(good(x.Shift(y))(t).Shift(x.Neg()))(t), y)
}
