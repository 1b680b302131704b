package rest_test

import (
	"math"
	"math/big"
	"math/rand"
	"testing"

	"sandreckoner/api"
	"sandreckoner/num"
	"sandreckoner/rest"
)

// P2.2, P2.3: numbers that can be written out, at all places.
func TestFloorAndBitOfWritten(t *testing.T) {
	for _, n := range written(11) {
		x := fromBig(t, n)
		for place := int64(0); place < int64(n.BitLen())+4; place += 1 + place/20 {
			want := new(big.Int).Rsh(n, uint(place))
			y := num.Of(place)
			if q := good(rest.Floor(x, y))(t); q.Cmp(fromBig(t, want)) != 0 {
				t.Fatalf("Floor of %v by 2^%d is not %v", n, place, want)
			}
			if b := good(rest.Bit(x, y))(t); b != int(want.Bit(0)) {
				t.Fatalf("Bit of %v at %d: %d", n, place, b)
			}
		}
	}
}

// P2.2, P2.3, T3: of numbers that cannot be written out, q 2^y <= x < (q + 1) 2^y, and the digit is what q leaves by 2.
func TestFloorAndBitOfTowers(t *testing.T) {
	numbers := towers(t, 12, 200)
	r := rand.New(rand.NewSource(13))
	for range 1500 {
		x, y := numbers[r.Intn(len(numbers))], absolute(numbers[r.Intn(len(numbers))])
		if terms := x.Terms(); len(terms) > 0 && r.Intn(2) == 0 { // a place near a digit that counts
			y = absolute(plus(t, terms[r.Intn(len(terms))].Exp, int64(r.Intn(5)-2)))
		}
		q := good(rest.Floor(x, y))(t)
		if good(q.Shift(y))(t).Cmp(x) > 0 {
			t.Fatal("the floor is too great")
		}
		if good(plus(t, q, 1).Shift(y))(t).Cmp(x) <= 0 {
			t.Fatal("the floor is too small")
		}
		if b := good(rest.Bit(x, y))(t); int64(b) != rem(t, q, 2) {
			t.Fatalf("the digit is %d", b)
		}
	}
}

// P2.2: the document's examples, and floors by powers that are greater than the number.
func TestFloorExamples(t *testing.T) {
	hundred := power(t, num.Of(100))
	great := power(t, hundred)
	tower := towerOf(t, api.MaxHeight-1, num.Of(1))
	for _, x := range []struct {
		what       string
		x, y, want num.N
	}{
		{"2^100 + 1 by 2", plus(t, hundred, 1), num.Of(1), power(t, num.Of(99))},
		{"-1 by 2^(2^100)", num.Of(-1), hundred, num.Of(-1)},
		{"-2^100 by 2^100", hundred.Neg(), num.Of(100), num.Of(-1)},
		{"-2^100 - 1 by 2^100", plus(t, hundred.Neg(), -1), num.Of(100), num.Of(-2)},
		{"-2^100 by 2^101", hundred.Neg(), num.Of(101), num.Of(-1)},
		{"-2^100 by a tower", hundred.Neg(), tower, num.Of(-1)},
		{"2^100 by a tower", hundred, tower, num.Of(0)},
		{"0 by a tower", num.Of(0), tower, num.Of(0)},
		{"a tower by another power", tower.Neg(), tower, num.Of(-1)},
		{"2^(2^100) by 2^(2^100)", great, hundred, num.Of(1)},
		{"2^(2^100) - 1 by 2^(2^100)", plus(t, great, -1), hundred, num.Of(0)},
		{"1 - 2^(2^100) by 2^(2^100)", plus(t, great.Neg(), 1), hundred, num.Of(-1)},
		{"-1 - 2^(2^100) by 2^(2^100)", plus(t, great.Neg(), -1), hundred, num.Of(-2)},
		{"2^(2^100) - 1 by 2^(2^100 - 1)", plus(t, great, -1), plus(t, hundred, -1), num.Of(1)},
		{"-5 by 1", num.Of(-5), num.Of(0), num.Of(-5)},
		{"-2^63 by 2^63", num.Of(math.MinInt64), num.Of(63), num.Of(-1)},
	} {
		same(t, x.what, good(rest.Floor(x.x, x.y))(t), x.want)
	}
}

// P2.2: taking 1 away changes exponents up to the last one that is there, and those behind a gap stay.
func TestFloorWithLongCarry(t *testing.T) {
	y := power(t, num.Of(100))
	for _, far := range []num.N{num.Of(0), power(t, num.Of(2000)), power(t, y)} {
		for _, terms := range []int{1, 2, 50, api.MaxTerms - 3} {
			for _, from := range []int64{0, 1, 2} {
				near := spread(t, terms, from, 2).Neg()
				want := plus(t, good(near.Add(far))(t), -1)
				above := good(good(near.Add(far))(t).Shift(y))(t)
				same(t, "with a carry", good(rest.Floor(plus(t, above, -7), y))(t), want)
				same(t, "without a carry", good(rest.Floor(plus(t, above, 7), y))(t), plus(t, want, 1))
			}
		}
	}
}

// P2.2, P6: floors of which an exponent has just the most terms that are allowed, and one more.
func TestFloorWithMostTerms(t *testing.T) {
	for _, below := range []int64{0, 3, -3} {
		x := plus(t, power(t, spread(t, api.MaxTerms-1, 300, 3)), below)
		y := spread(t, 1, 10, 1)
		q := good(rest.Floor(x, y))(t)
		if n := len(q.Terms()[0].Exp.Terms()); n != api.MaxTerms {
			t.Errorf("%d terms", n)
		}
		if below >= 0 { // (q + 1) 2^y is x without what lies below otherwise
			same(t, "the floor, shifted back", good(q.Shift(y))(t), plus(t, x, -below))
		}
		x = plus(t, power(t, spread(t, api.MaxTerms, 300, 3)), below)
		refuses(rest.Floor(x, y))(t, "an exponent of one term more", api.ErrFull)
		refuses(rest.Floor(x.Neg(), y))(t, "an exponent of one term more", api.ErrFull)
		digit := 0
		if below < 0 {
			digit = 1
		}
		if b := good(rest.Bit(x, y))(t); b != digit {
			t.Errorf("a digit of a number whose floor is not allowed: %d", b)
		}
		if b := good(rest.Bit(x, x.Terms()[0].Exp))(t); b != 1-digit {
			t.Errorf("the first digit of a number whose floor is not allowed: %d", b)
		}
	}
}

// P2.2, P6: floors of just the greatest weight that is allowed, and of one more.
func TestFloorOfMostWeight(t *testing.T) {
	for _, below := range []int64{0, 1, -1} {
		for _, weight := range []int{api.MaxWeight, api.MaxWeight + 1} {
			e := heavy(t, weight-2)
			// The new exponent of e - y is a part more; 0, which that of -1 is, is there already.
			y := num.Of(1 << 32)
			if d := less(t, e, y); d.Weight() != e.Weight()+1 {
				t.Fatalf("the weight of the exponent is %d", d.Weight())
			}
			x := plus(t, power(t, e), below)
			q, err := rest.Floor(x, y)
			if weight > api.MaxWeight {
				refuses(q, err)(t, "one part more", api.ErrFull)
			} else if err != api.OK || q.Weight() != weight {
				t.Errorf("error %d, weight %d", err, q.Weight())
			}
		}
	}
}

// P2.2, P6: a floor that is allowed, while it is not before 1 is taken away: its exponents are even ones then, and odd ones, which are its parts anyway, behind that.
func TestFloorWhereOneLessIsAllowed(t *testing.T) {
	const count = 290
	y := num.Of(3)
	near := spread(t, count, 0, 2).Neg()
	far := power(t, spread(t, count, 5, 2))
	bulk := heavy(t, api.MaxWeight+250-good(far.Add(near))(t).Weight())
	far = good(far.Add(power(t, bulk)))(t)
	refuses(far.Add(near))(t, "one more than the floor", api.ErrFull)
	x := good(good(far.Shift(y))(t).Add(good(near.Shift(y))(t)))(t)
	want := good(far.Add(plus(t, near, -1)))(t)
	same(t, "the floor", good(rest.Floor(plus(t, x, -1), y))(t), want)
	refuses(rest.Floor(plus(t, x, 1), y))(t, "one more than the floor", api.ErrFull)
}

// P2.3: the document's examples, and places beyond all writing.
func TestBitExamples(t *testing.T) {
	hundred := power(t, num.Of(100))
	great := power(t, hundred)
	tower := towerOf(t, api.MaxHeight-1, num.Of(1))
	top := tower.Terms()[0].Exp
	middle := less(t, hundred, power(t, num.Of(50)))
	for _, x := range []struct {
		what     string
		x, place num.N
		want     int
	}{
		{"2^(2^100) at 2^100", great, hundred, 1},
		{"2^(2^100) - 1 at 2^99", plus(t, great, -1), power(t, num.Of(99)), 1},
		{"2^(2^100) - 1 at 2^100", plus(t, great, -1), hundred, 0},
		{"2^(2^100) + 1 at 2^99", plus(t, great, 1), power(t, num.Of(99)), 0},
		{"-1 at 2^100", num.Of(-1), hundred, 1},
		{"-1 at a tower", num.Of(-1), tower, 1},
		{"0 at a tower", num.Of(0), tower, 0},
		{"2^100 at 2^200", hundred, power(t, num.Of(200)), 0},
		{"-2^100 at 2^200", hundred.Neg(), power(t, num.Of(200)), 1},
		{"a tower at its exponent", tower, top, 1},
		{"a tower, less 1, at its exponent", plus(t, tower, -1), top, 0},
		{"a tower, less 1, below its exponent", plus(t, tower, -1), plus(t, top, -1), 1},
		{"a tower with a minus sign at its exponent", tower.Neg(), top, 1},
		{"a tower with a minus sign above its exponent", tower.Neg(), plus(t, top, 1), 1},
		{"a tower with a minus sign below its exponent", tower.Neg(), plus(t, top, -1), 0},
		{"2^100 - 2^50 at 75", middle, num.Of(75), 1},
		{"2^100 - 2^50 at 49", middle, num.Of(49), 0},
		{"2^100 - 2^50 at 50", middle, num.Of(50), 1},
		{"2^100 - 2^50 at 100", middle, num.Of(100), 0},
	} {
		if b := good(rest.Bit(x.x, x.place))(t); b != x.want {
			t.Errorf("%s: %d", x.what, b)
		}
	}
}

// P2.2, P2.3: negative powers and places.
func TestFloorAndBitErrors(t *testing.T) {
	great := power(t, power(t, num.Of(100)))
	for _, x := range []num.N{num.Of(0), num.Of(1), num.Of(-1), great, great.Neg()} {
		for _, y := range []num.N{num.Of(-1), num.Of(math.MinInt64), great.Neg(), plus(t, great.Neg(), 1)} {
			refuses(rest.Floor(x, y))(t, "Floor by a negative power", api.ErrArg)
			refuses(rest.Bit(x, y))(t, "Bit at a negative place", api.ErrArg)
		}
	}
}
