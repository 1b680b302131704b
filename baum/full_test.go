package baum_test

import (
	"testing"

	"sandreckoner/api"
	"sandreckoner/baum"
	"sandreckoner/num"
)

// crowded is what is not allowed where two numbers of many terms come together.
type crowded struct {
	a, b   num.N // a + b has 301 terms
	spaced num.N // 2^a + 2^b cannot be halved a times
	wide   baum.E
}

// crowd returns numbers that are not allowed together.
func crowd(t *testing.T) crowded {
	t.Helper()
	a, b := spread(t, 150, 0), spread(t, 151, 2)
	refuses(a.Add(b))(t, "a + b", api.ErrFull)
	spaced := plus(t, power(t, a), power(t, b))
	refuses(spaced.Shift(a.Neg()))(t, "1 + 2^(b - a)", api.ErrFull)
	// Of U 2^V each term's exponent has terms of a and of b.
	wide := baum.E{U: plus(t, power(t, b), num.Of(1)), V: a}
	refuses(wide.U.Shift(wide.V))(t, "U 2^V", api.ErrFull)
	return crowded{a, b, spaced, wide}
}

// powerOfA returns the plain element (k, 0, 0).
func powerOfA(t *testing.T, k num.N) baum.E {
	t.Helper()
	return mul(t, baum.E{U: k}, baum.E{})
}

// isFull checks that a product is refused by Trace with ErrFull, and nothing beside it.
func isFull(t *testing.T, what, outer string, inner ...baum.E) {
	t.Helper()
	steps, left, end, err := baum.TraceProduct(outer, inner)
	if err != api.ErrFull || len(steps) > 0 || left != 0 || !equal(end, baum.E{}) {
		t.Errorf("%s: %d steps, %d left, %s, error %d", what, len(steps), left, show(end), err)
	}
}

// ends checks how the check of a product's steps ends.
func ends(t *testing.T, what string, want api.Errno, steps []api.Pinch, outer string, inner ...baum.E) {
	t.Helper()
	left, end, err := baum.CheckProduct(outer, inner, steps)
	if err != want || err != api.OK && (left != 0 || !equal(end, baum.E{})) {
		t.Errorf("%s: %d left, %s, error %d, not %d", what, left, show(end), err, want)
	}
}

// P5.4, P5.5, P5.7: between b and B a number k that is not allowed, which is told ahead of a wrong one.
func TestPinchOfFullPower(t *testing.T) {
	c := crowd(t)
	unit := baum.E{}
	isFull(t, "k", "bB", unit, c.wide, unit)
	isFull(t, "k behind a pinch", "bBbB", unit, unit, unit, c.wide, unit)
	zero := pinch(0, num.Of(0))
	ends(t, "k", api.ErrFull, []api.Pinch{zero}, "bB", unit, c.wide, unit)
	ends(t, "k", api.ErrFull, []api.Pinch{{}}, "bB", unit, c.wide, unit)
	ends(t, "k at another place", api.ErrArg, []api.Pinch{pinch(1, num.Of(0))}, "bB", unit, c.wide, unit)
	ends(t, "k behind a step", api.ErrFull, []api.Pinch{zero, zero}, "bBbB", unit, unit, unit, c.wide, unit)
	ends(t, "k behind a step that is refused", api.ErrArg, []api.Pinch{pinch(0, num.Of(1)), zero}, "bBbB", unit, unit, unit, c.wide, unit)
	ends(t, "k that is not made", api.OK, []api.Pinch{zero}, "bBbB", unit, unit, unit, c.wide, unit)
	// Where U 2^V is no whole number, or M is not 0, there is no pinch, whatever U and V are.
	half := baum.E{U: c.wide.U, V: c.wide.V.Neg()}
	more := baum.E{U: c.wide.U, V: c.wide.V, M: num.Of(1)}
	for _, g := range []baum.E{half, more} {
		if steps, left, _, err := baum.TraceProduct("bB", []baum.E{unit, g, unit}); err != api.OK || len(steps) != 0 || left != 2 {
			t.Errorf("no pinch: %d steps, %d left, error %d", len(steps), left, err)
		}
		ends(t, "no pinch", api.ErrArg, []api.Pinch{zero}, "bB", unit, g, unit)
	}
}

// P5.4, P5.5, P5.7: between B and b a number k of which (k, 0, 0) has no plain form that is allowed: a wrong one is told ahead of it.
func TestPinchOfFullElement(t *testing.T) {
	c := crowd(t)
	unit, g := baum.E{}, baum.E{M: c.spaced}
	isFull(t, "the plain form of k", "Bb", unit, g, unit)
	ends(t, "the plain form of k", api.ErrFull, []api.Pinch{pinch(0, c.spaced)}, "Bb", unit, g, unit)
	// The plain form is asked for even where the sum with what stands ahead, here k + 1, is odd.
	isFull(t, "the plain form of k, behind a", "Bb", of(1, 0, 0), g, unit)
	ends(t, "the plain form of k, behind a", api.ErrFull, []api.Pinch{pinch(0, c.spaced)}, "Bb", of(1, 0, 0), g, unit)
	ends(t, "a wrong power", api.ErrArg, []api.Pinch{pinch(0, c.a)}, "Bb", unit, g, unit)
	ends(t, "no power", api.ErrArg, []api.Pinch{{}}, "Bb", unit, g, unit)
	// Between b and B, k is put down as it is.
	k := plus(t, c.spaced, num.Of(1))
	steps, left, end, err := baum.TraceProduct("bB", []baum.E{unit, {U: k}, unit})
	if err != api.OK || left != 0 || !equal(end, baum.E{M: k}) || !sameSteps(steps, []api.Pinch{pinch(0, k)}) {
		t.Errorf("an odd k: %d steps, %d left, %s, error %d", len(steps), left, show(end), err)
	}
	same(t, "(k, 0, 0)", powerOfA(t, k), baum.E{U: k})
	steps, left, end, err = baum.TraceProduct("Bb", []baum.E{unit, {M: k}, unit})
	if err != api.OK || left != 0 || !equal(end, baum.E{U: k}) || !sameSteps(steps, []api.Pinch{pinch(0, k)}) {
		t.Errorf("an odd k: %d steps, %d left, %s, error %d", len(steps), left, show(end), err)
	}
}

// P5.4, P5.5, P5.7: the element of a pinch is multiplied by the one ahead of it, and then by the one behind it.
func TestPinchBesideFullElements(t *testing.T) {
	c := crowd(t)
	unit := baum.E{}
	k := powerOfA(t, c.b)
	ahead, behind, back := baum.E{M: c.a}, baum.E{M: c.a}, baum.E{M: c.b.Neg()}
	isFull(t, "ahead", "bB", ahead, k, unit)
	isFull(t, "behind", "bB", unit, k, behind)
	isFull(t, "ahead, taken away behind", "bB", ahead, k, back)
	step := []api.Pinch{pinch(0, c.b)}
	ends(t, "ahead", api.ErrFull, step, "bB", ahead, k, unit)
	ends(t, "behind", api.ErrFull, step, "bB", unit, k, behind)
	ends(t, "ahead, with a wrong power", api.ErrArg, []api.Pinch{pinch(0, c.a)}, "bB", ahead, k, unit)
	steps, left, end, err := baum.TraceProduct("bB", []baum.E{back, k, behind})
	if err != api.OK || left != 0 || !equal(end, behind) || !sameSteps(steps, step) {
		t.Errorf("taken away ahead: %d steps, %d left, %s, error %d", len(steps), left, show(end), err)
	}
	// The product of both neighbours is not asked for.
	steps, left, end, err = baum.TraceProduct("bB", []baum.E{{M: c.a}, powerOfA(t, c.a.Neg()), {M: c.b}})
	if err != api.OK || left != 0 || !equal(end, baum.E{M: c.b}) || len(steps) != 1 {
		t.Errorf("a, -a and b: %d steps, %d left, %s, error %d", len(steps), left, show(end), err)
	}
	// Between B and b likewise: t^a and a^(2^b), which by itself is allowed.
	great := power(t, c.b)
	isFull(t, "ahead of B", "Bb", ahead, baum.E{M: great}, unit)
	ends(t, "ahead of B", api.ErrFull, []api.Pinch{pinch(0, great)}, "Bb", ahead, baum.E{M: great}, unit)
	steps, left, end, err = baum.TraceProduct("Bb", []baum.E{unit, {M: great}, behind})
	if err != api.OK || left != 0 || !equal(end, baum.E{U: num.Of(1), V: c.b, M: c.a}) || len(steps) != 1 {
		t.Errorf("a^(2^b) t^a: %d steps, %d left, %s, error %d", len(steps), left, show(end), err)
	}
}

// P1: whatever goes wrong in a calculation, there is an error, and no panic.
func TestAttempt(t *testing.T) {
	if n, err := baum.Attempt(func() int { return 7 }); n != 7 || err != api.OK {
		t.Errorf("%d, error %d", n, err)
	}
	for _, errno := range []api.Errno{api.ErrArg, api.ErrForm, api.ErrFull} {
		refuses(baum.Attempt(func() int { panic(errno) }))(t, "an error", errno)
	}
	refuses(baum.Attempt(func() int { panic("another thing") }))(t, "another thing", api.ErrFull)
	refuses(baum.Attempt(func() int { return []int{}[len(relator)] }))(t, "an index", api.ErrFull)
}
