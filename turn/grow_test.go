package turn_test

import (
	"math"
	"math/big"
	"math/rand"
	"testing"

	"sandreckoner/api"
	"sandreckoner/num"
	"sandreckoner/turn"
)

// grown returns a number that there has to be.
func grown(t *testing.T, double bool, x, c, times num.N) num.N {
	t.Helper()
	return good(turn.Grow(double, x, c, times))(t)
}

// anyBig returns a number that is written out, often one with long runs of digits that are alike.
func anyBig(r *rand.Rand) *big.Int {
	n := new(big.Int)
	for range 1 + r.Intn(3) {
		part := bigPower(r.Intn(70))
		switch r.Intn(3) {
		case 0:
			part.Sub(part, big.NewInt(1))
		case 1:
			part.Div(part, big.NewInt(3))
		default:
			part.Rand(r, part)
		}
		n.Lsh(n, uint(r.Intn(60)))
		n.Add(n, part)
	}
	if r.Intn(2) == 0 {
		n.Neg(n)
	}
	return n
}

// P4.6, T5: turns that are made one after another, with numbers that are written out.
func TestGrowTurnByTurn(t *testing.T) {
	r := rand.New(rand.NewSource(71))
	for range 60 {
		x, c := anyBig(r), anyBig(r)
		if r.Intn(4) == 0 {
			c.Neg(x)
		}
		for _, double := range []bool{false, true} {
			y := new(big.Int).Set(x)
			for n := range int64(70) {
				if got := grown(t, double, fromBig(t, x), fromBig(t, c), num.Of(n)); got.Cmp(fromBig(t, y)) != 0 {
					t.Fatalf("%v by %v, double %t, behind %d turns: not %v", x, c, double, n, y)
				}
				if double {
					y.Lsh(y, 1)
				}
				y.Add(y, c)
			}
		}
	}
}

// P4.6: great numbers of turns that are written out.
func TestGrowWrittenTimes(t *testing.T) {
	r := rand.New(rand.NewSource(72))
	for range 300 {
		x, c, n := anyBig(r), anyBig(r), new(big.Int).Abs(anyBig(r))
		want := new(big.Int).Mul(c, n)
		same(t, "with c added", grown(t, false, fromBig(t, x), fromBig(t, c), fromBig(t, n)), fromBig(t, want.Add(want, x)))
		times := r.Intn(500)
		want = new(big.Int).Add(x, c)
		want.Sub(want.Lsh(want, uint(times)), c)
		same(t, "doubled", grown(t, true, fromBig(t, x), fromBig(t, c), num.Of(int64(times))), fromBig(t, want))
	}
}

// P4.6, T5: so many turns, and then so many others, are as many as both.
func TestGrowInTwoStretches(t *testing.T) {
	hundred := power(t, num.Of(100))
	great := power(t, hundred)
	numbers := []num.N{num.Of(0), num.Of(1), num.Of(-1), num.Of(12), hundred, hundred.Neg(), plus(t, great, -5), towerOf(t, 20, num.Of(2)).Neg()}
	counts := []num.N{num.Of(0), num.Of(1), num.Of(63), hundred, plus(t, hundred, -7), great, towerOf(t, 30, num.Of(3))}
	for _, x := range numbers {
		for _, c := range numbers {
			for _, a := range counts {
				for _, b := range counts {
					both := good(a.Add(b))(t)
					for _, double := range []bool{false, true} {
						first := grown(t, double, x, c, a)
						same(t, "in two stretches", grown(t, double, first, c, b), grown(t, double, x, c, both))
					}
				}
			}
		}
	}
}

// P4.6: the document's examples, no turns, and numbers that stay.
func TestGrowExamples(t *testing.T) {
	hundred := power(t, num.Of(100))
	great := power(t, hundred)
	one, five := num.Of(1), num.Of(5)
	threefold := good(hundred.Mul(num.Of(3)))(t)
	for _, x := range []struct {
		what           string
		double         bool
		x, c, times, y num.N
	}{
		{"2^n - 1", true, one, one, num.Of(9), num.Of(1023)},
		{"2^n - 1", true, one, one, num.Of(61), num.Of(math.MaxInt64 / 2)},
		{"2^n - 1", true, one, one, num.Of(62), num.Of(math.MaxInt64)},
		{"2^n - 1", true, one, one, hundred, plus(t, power(t, plus(t, hundred, 1)), -1)},
		{"2^n - 1", true, one, one, great, plus(t, power(t, plus(t, great, 1)), -1)},
		{"5 - 3 n", false, five, num.Of(-3), hundred, plus(t, threefold.Neg(), 5)},
		{"5 - 3 n", false, five, num.Of(-3), num.Of(4), num.Of(-7)},
		{"5 to 2 * 5 - 5", true, five, num.Of(-5), great, five},
		{"0 doubled", true, num.Of(0), num.Of(0), great, num.Of(0)},
		{"0 and 0", false, num.Of(0), num.Of(0), great, num.Of(0)},
		{"5 doubled", true, five, num.Of(0), great, good(five.Mul(power(t, great)))(t)},
		{"0 and n", false, num.Of(0), one, great, great},
		{"n and n", false, great, num.Of(-1), great, num.Of(0)},
		{"5 and no c", false, five, num.Of(0), great, five},
		{"no turns", true, num.Of(9), num.Of(2), num.Of(0), num.Of(9)},
		{"no turns", false, num.Of(9), num.Of(2), num.Of(0), num.Of(9)},
		{"no turns", true, great, hundred, num.N{}, great},
		{"no turns", false, great, hundred, num.N{}, great},
		{"one turn", true, num.Of(9), num.Of(2), one, num.Of(20)},
		{"one turn", false, num.Of(9), num.Of(2), one, num.Of(11)},
		{"one turn", true, num.Of(math.MinInt64), num.Of(-1), one, plus(t, power(t, num.Of(64)).Neg(), -1)},
	} {
		same(t, x.what, grown(t, x.double, x.x, x.c, x.times), x.y)
	}
}

// P4.6: negative numbers of turns, whatever else is refused, too.
func TestGrowNegativeTimes(t *testing.T) {
	great := power(t, power(t, num.Of(100)))
	tower := towerOf(t, api.MaxHeight-1, num.Of(1))
	many := spread(t, api.MaxTerms, 0, 2)
	for _, x := range []num.N{num.Of(0), num.Of(5), great, tower, many, many.Neg()} {
		for _, times := range []num.N{num.Of(-1), num.Of(math.MinInt64), great.Neg(), tower.Neg(), many.Neg()} {
			for _, double := range []bool{false, true} {
				refuses(turn.Grow(double, x, x, times))(t, "Grow", api.ErrArg)
				refuses(turn.Grow(double, num.Of(0), x, times))(t, "Grow", api.ErrArg)
				refuses(turn.Grow(double, x, x.Neg(), times))(t, "Grow", api.ErrArg)
			}
		}
	}
}

// P4.6: without doubling, how many terms c and times may have.
func TestGrowManyProducts(t *testing.T) {
	hundred, more := spread(t, 100, 0, 2), spread(t, 101, 0, 2)
	square := good(hundred.Mul(hundred))(t)
	same(t, "100 terms times 100", grown(t, false, num.Of(7), hundred, hundred), plus(t, square, 7))
	for _, x := range []num.N{num.Of(0), num.Of(7), hundred} {
		refuses(turn.Grow(false, x, hundred, more))(t, "100 terms times 101", api.ErrFull)
		refuses(turn.Grow(false, x, more.Neg(), hundred))(t, "101 terms times 100", api.ErrFull)
	}
	full := spread(t, api.MaxTerms, 0, 2)
	same(t, "300 terms once", grown(t, false, num.Of(0), full, num.Of(1)), full)
	same(t, "300 terms, three times", grown(t, false, num.Of(1), full, num.Of(3)), power(t, num.Of(2*api.MaxTerms)))
	same(t, "300 terms, never", grown(t, false, num.Of(1), full, num.Of(0)), num.Of(1))
	same(t, "no terms", grown(t, false, num.Of(1), num.Of(0), full), num.Of(1))
	// With doubling, terms are not multiplied.
	same(t, "doubled", grown(t, true, full, full.Neg(), full), full)
}

// P4.6: without doubling, results that are not allowed, and products that are not, though the result would be.
func TestGrowFullWithoutDoubling(t *testing.T) {
	// Terms that lie far apart: 17 times 18 are 306, 15 times 20 are 300.
	c, times := spread(t, 17, 0, 2), spread(t, 18, 0, 100)
	refuses(turn.Grow(false, num.Of(0), c, times))(t, "306 terms", api.ErrFull)
	x := num.Of(0)
	for _, term := range times.Terms()[:9] {
		x = good(x.Sub(good(c.Shift(term.Exp))(t)))(t)
	}
	refuses(turn.Grow(false, x, c, times))(t, "306 terms, of which 153 are taken away again", api.ErrFull)
	c, times = spread(t, 15, 0, 2), spread(t, 20, 0, 100)
	if y := grown(t, false, num.Of(0), c, times); len(y.Terms()) != api.MaxTerms {
		t.Errorf("%d terms", len(y.Terms()))
	}
	refuses(turn.Grow(false, power(t, num.Of(5000)), c, times))(t, "300 terms and one more", api.ErrFull)
	tower := towerOf(t, api.MaxHeight-1, num.Of(1))
	same(t, "a tower", grown(t, false, tower, num.Of(-3), tower), good(tower.Mul(num.Of(-2)))(t))
	refuses(turn.Grow(false, num.Of(0), heavy(t, 1100, 1000), heavy(t, 1100, 9000)))(t, "too many parts", api.ErrFull)
}

// P4.6: with doubling, x + c need not be allowed.
func TestGrowWhereTheSumIsFull(t *testing.T) {
	x := plus(t, spread(t, 199, 402, 2), 1)
	c := spread(t, 200, 2, 2)
	refuses(x.Add(c))(t, "x + c", api.ErrFull)
	same(t, "no turns", grown(t, true, x, c, num.Of(0)), x)
	same(t, "two turns", grown(t, true, x, c, num.Of(2)), spread(t, 200, 402, 2))
	refuses(turn.Grow(true, x, c, num.Of(3)))(t, "three turns", api.ErrFull)
	// x and c with the most terms.
	x, c = spread(t, api.MaxTerms, 0, 4), spread(t, api.MaxTerms, 2, 4)
	same(t, "no turns", grown(t, true, x, c, num.Of(0)), x)
	refuses(turn.Grow(true, x, c, num.Of(1)))(t, "one turn", api.ErrFull)
	far := spread(t, api.MaxTerms, 5000, 4).Neg()
	refuses(turn.Grow(true, x, far, num.Of(3000)))(t, "900 terms", api.ErrFull)
}

// P4.6: with doubling, an exponent of just the most terms that are allowed, and of one more, of x and of c.
func TestGrowExponentsOfMostTerms(t *testing.T) {
	e := spread(t, 150, 300, 4)
	for _, x := range []num.N{power(t, e), power(t, e).Neg(), plus(t, power(t, e), 1), power(t, power(t, num.Of(3000)))} {
		c := x.Neg()
		last := x.Terms()[0].Exp
		count := int64(api.MaxTerms - len(last.Terms()))
		most := spread(t, int(count), 302, 4)
		more := good(most.Add(power(t, num.Of(3100))))(t)
		good(last.Add(most))(t)
		refuses(last.Add(more))(t, "the exponent", api.ErrFull)
		same(t, "x and -x", grown(t, true, x, c, most), x)
		refuses(turn.Grow(true, x, c, more))(t, "x and -x", api.ErrFull)
		refuses(turn.Grow(true, x, num.Of(0), more))(t, "x and 0", api.ErrFull)
		refuses(turn.Grow(true, num.Of(0), c, more))(t, "0 and c", api.ErrFull)
		refuses(turn.Grow(true, num.Of(5), c, more))(t, "5 and c", api.ErrFull)
	}
}

// P4.6: with doubling, an exponent that is not allowed, while x + c has just one that is: 5 * 2^e and 3 * 2^e are 2^(e + 3).
func TestGrowExponentsThatMerge(t *testing.T) {
	low, times := spread(t, 150, 4, 2), spread(t, 150, 304, 2)
	e := plus(t, low, -3)
	refuses(e.Add(times))(t, "the exponent", api.ErrFull)
	x, c := good(num.Of(5).Shift(e))(t), good(num.Of(3).Shift(e))(t)
	good(good(good(x.Add(c))(t).Shift(times))(t).Sub(c))(t)
	refuses(turn.Grow(true, x, c, times))(t, "5 * 2^e and 3 * 2^e", api.ErrFull)
	refuses(turn.Grow(true, c, x, times))(t, "3 * 2^e and 5 * 2^e", api.ErrFull)
	x, c = power(t, low), good(num.Of(15).Shift(low))(t)
	refuses(turn.Grow(true, x, c, times))(t, "2^e and 15 * 2^e", api.ErrFull)
	times = spread(t, 149, 304, 2)
	want := good(power(t, plus(t, good(low.Add(times))(t), 4)).Sub(c))(t)
	same(t, "2^e and 15 * 2^e", grown(t, true, x, c, times), want)
}

// P4.6: with doubling, towers of just the greatest height that is allowed.
func TestGrowHighest(t *testing.T) {
	high := towerOf(t, api.MaxHeight-1, num.Of(1))
	if high.Height() != api.MaxHeight {
		t.Fatalf("the height is %d", high.Height())
	}
	one := num.Of(1)
	same(t, "1 and -1", grown(t, true, one, num.Of(-1), high), one)
	same(t, "0 and 0", grown(t, true, num.Of(0), num.Of(0), high), num.Of(0))
	refuses(turn.Grow(true, one, one, high))(t, "1 and 1", api.ErrFull)
	refuses(turn.Grow(true, one, num.Of(0), high))(t, "1 and 0", api.ErrFull)
	refuses(turn.Grow(true, num.Of(0), one, high))(t, "0 and 1", api.ErrFull)
	top := high.Terms()[0].Exp
	same(t, "a tower less", grown(t, true, one, num.Of(0), top), high)
	same(t, "high ones", grown(t, true, high, high.Neg(), high), high)
}

// P4.6: with doubling, exponents of just the greatest weight that is allowed, in a term that is not.
func TestGrowExponentsOfMostWeight(t *testing.T) {
	times := heavy(t, api.MaxWeight, 1000)
	refuses(num.Of(1).Shift(times))(t, "the term", api.ErrFull)
	one := num.Of(1)
	same(t, "1 and -1", grown(t, true, one, num.Of(-1), times), one)
	refuses(turn.Grow(true, one, num.Of(0), times))(t, "1 and 0", api.ErrFull)
	// 2^40 has a part more than times has: 2^40 + times has it, too.
	x := power(t, power(t, num.Of(40)))
	refuses(power(t, num.Of(40)).Add(times))(t, "an exponent", api.ErrFull)
	refuses(turn.Grow(true, x, x.Neg(), times))(t, "x and -x", api.ErrFull)
	light := heavy(t, api.MaxWeight-100, 1000)
	same(t, "x and -x", grown(t, true, x, x.Neg(), light), x)
}

// P4.6: with doubling, (x + c) * 2^times need not be allowed: of 1 and 2^n it is 2^n + 2^(2 n), whose exponents share few parts.
func TestGrowWhereTheProductIsFull(t *testing.T) {
	n := good(spread(t, 280, 1000, 7).Add(power(t, heavy(t, 1500, 9000))))(t)
	c := power(t, n)
	want := good(c.Mul(c))(t)
	refuses(want.Add(c))(t, "2^n + 2^(2 n)", api.ErrFull)
	same(t, "1 and 2^n", grown(t, true, num.Of(1), c, n), want)
	refuses(turn.Grow(true, num.Of(2), c, n))(t, "2 and 2^n", api.ErrFull)
}

// P4.6: with doubling, terms that are not allowed together, while each one is.
func TestGrowTermsOfMuchWeight(t *testing.T) {
	times := heavy(t, 1200, 1000)
	x := heavy(t, 1200, 9000)
	refuses(x.Shift(times))(t, "x shifted", api.ErrFull)
	for _, term := range x.Terms() {
		good(term.Exp.Add(times))(t)
	}
	same(t, "x and -x", grown(t, true, x, x.Neg(), times), x)
	same(t, "-x and x", grown(t, true, x.Neg(), x, times), x.Neg())
	refuses(turn.Grow(true, plus(t, x, 1), x.Neg(), times))(t, "x + 1 and -x", api.ErrFull)
	refuses(turn.Grow(true, x, num.Of(0), times))(t, "x and 0", api.ErrFull)
	refuses(turn.Grow(true, x, x, times))(t, "x and x", api.ErrFull)
	// Less weight: the exponents of the result are allowed together, those of x shifted are not.
	x = heavy(t, 790, 9000)
	refuses(x.Shift(times))(t, "x shifted", api.ErrFull)
	same(t, "x + 1 and -x", grown(t, true, plus(t, x, 1), x.Neg(), times), good(power(t, times).Add(x))(t))
}
