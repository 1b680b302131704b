package sheet_test

import (
	"slices"
	"strconv"
	"strings"
	"testing"

	"sandreckoner/api"
	"sandreckoner/num"
	"sandreckoner/sheet"
)

// P7.4: what is renewed is the cell that is set, and those that hang on it, in the order of names.
func TestRenewed(t *testing.T) {
	s := sheet.New()
	renewed(t, s, "")
	for _, x := range [][2]string{
		{"m: z", "m"}, {"z: 1", "m z"}, {"k: m + z", "k"}, {"b: k", "b"}, {"a: 5", "a"}, {"z: 2", "b k m z"}, {"a: 6", "a"}, {"m: z + 0", "b k m"},
		// A formula that is not reached is hung on all the same, and so is one with an error, or without another value.
		{"q: 1 >> -1 + a", "q"}, {"a: 7", "a q"}, {"q: 0 * a", "q"}, {"a: 8", "a q"}, {"a: low(0)", "a q"}, {"a: low(0) + 1", "a q"}, {"a: nowhere", "a q"}, {"nowhere: 1", "a nowhere q"},
		// What no longer stands in a formula touches the cell no more.
		{"q: 1", "q"}, {"a: 9", "a"}, {"k: m", "b k"}, {"z: 3", "b k m z"}, {"b: 1", "b"}, {"z: 4", "k m z"},
	} {
		set(t, s, x[0])
		renewed(t, s, x[1])
	}
	unset(t, s, "m")
	renewed(t, s, "k")
	unset(t, s, "k")
	renewed(t, s, "")
	unset(t, s, "z")
	renewed(t, s, "")
}

// P7.4: a formula of the same plain text renews nothing; one of the same value does.
func TestRenewedOfSameFormula(t *testing.T) {
	s := filled(t, "a: 2 + 3", "b: a")
	for _, formula := range []string{"2 + 3", "2+3", " ((2)+(3))\n", "(2 + 3)"} {
		set(t, s, "a: 6")
		set(t, s, "a: 2 + 3")
		renewed(t, s, "a b")
		set(t, s, "a: "+formula)
		renewed(t, s, "")
		isValue(t, s, "b", "5")
	}
	for _, formula := range []string{"3 + 2", "5", "(2 + 3) + 0", "2 + 3"} {
		set(t, s, "a: "+formula)
		renewed(t, s, "a b")
	}
	set(t, s, "x: y")
	set(t, s, "x: y")
	renewed(t, s, "")
	// With MaxCells cells, too.
	for i := range api.MaxCells - 3 {
		set(t, s, nameOf(i)+": b")
	}
	set(t, s, "b: (a)")
	renewed(t, s, "")
}

// P7.4: what is refused changes nothing about it.
func TestRenewedOfRefused(t *testing.T) {
	s := filled(t, "a: 1", "b: a", "c: b", "a: 2")
	renewed(t, s, "a b c")
	refusesSet(t, s, "a", "c", api.ErrOrder)
	refusesSet(t, s, "b", "1 +", api.ErrForm)
	refusesSet(t, s, "B", "1", api.ErrArg)
	refused(t, s, "Unset", api.ErrNone, func() api.Errno { return s.Unset("d") })
	renewed(t, s, "a b c")
	unset(t, s, "a")
	renewed(t, s, "b c")
	refused(t, s, "Unset", api.ErrNone, func() api.Errno { return s.Unset("a") })
	renewed(t, s, "b c")
}

// P7.4: behind Load all cells are renewed, and changes touch what they did.
func TestRenewedBehindLoad(t *testing.T) {
	s := filled(t, "c: a", "a: b + d", "b: 1", "e: 0", "b: 1")
	renewed(t, s, "")
	u := good(sheet.Load(s.Image()))(t)
	renewed(t, u, "a b c e")
	set(t, u, "b: 1")
	renewed(t, u, "")
	set(t, u, "b: 2")
	renewed(t, u, "a b c")
	set(t, u, "d: 2")
	renewed(t, u, "a c d")
	renewed(t, good(sheet.Load(sheet.New().Image()))(t), "")
}

// P7.4: no other cell is calculated.
func TestOthersStay(t *testing.T) {
	s := filled(t, "a: 1", "b: a", "c: b", "d: a + e", "e: 5", "f: 7")
	mark := num.Of(1000)
	for _, x := range []struct {
		change      func()
		stay, renew string
	}{
		{func() { set(t, s, "b: a + 1") }, "a d e f", "b c"},
		{func() { set(t, s, "e: 6") }, "a b c f", "d e"},
		{func() { set(t, s, "g: a + b") }, "a b c d e f", "g"},
		{func() { set(t, s, "f: 7") }, "a b c d e f g", ""},
		{func() { unset(t, s, "g") }, "a b c d e f", ""},
		{func() { unset(t, s, "b") }, "a d e f", "c"},
		{func() { set(t, s, "a: 3") }, "c e f", "a d"},
	} {
		for _, name := range s.Names() {
			s.Mark(name, mark)
		}
		x.change()
		renewed(t, s, x.renew)
		for _, name := range strings.Fields(x.stay) {
			isValue(t, s, name, "1000")
		}
		for _, name := range strings.Fields(x.renew) {
			if y, err := s.Value(name); err == api.OK && y.Cmp(mark) == 0 {
				t.Errorf("%s is not calculated", name)
			}
		}
	}
}

// P7.4, Ways: what hangs on a name is yielded behind that on which it hangs, each once.
func TestTouched(t *testing.T) {
	s := filled(t, "a: b + c + d", "b: c + d", "c: d + e", "f: a + c", "g: e", "h: 1")
	for names, want := range map[string]string{
		"d": "d c b a f", "e": "e c b a f g", "a": "a f", "f": "f", "h": "h", "nothing": "nothing", "g b": "b a f g", "a b c f g h": "c b a f g h",
	} {
		list := s.Touched(strings.Fields(names)...)
		sorted := slices.Clone(list)
		slices.Sort(sorted)
		wanted := strings.Fields(want)
		slices.Sort(wanted)
		if !slices.Equal(sorted, wanted) {
			t.Errorf("%s: %q, not %s", names, list, want)
		}
		for _, pair := range strings.Fields("dc ec db cb ba da ca af cf eg") {
			ahead, behind := slices.Index(list, pair[:1]), slices.Index(list, pair[1:])
			if ahead >= 0 && behind >= 0 && ahead > behind {
				t.Errorf("%s: %q", names, list)
			}
		}
		for count := 1; count <= len(list); count++ {
			if first := s.FirstTouched(count, strings.Fields(names)...); !slices.Equal(first, list[:count]) {
				t.Errorf("the first %d of %q: %q", count, list, first)
			}
		}
	}
}

// P7.4, P7: cells on which a cell hangs by many ways are calculated once.
func TestManyWays(t *testing.T) {
	s := filled(t, nameOf(0)+": 0", nameOf(1)+": 1")
	for i := 2; i < api.MaxCells; i++ {
		set(t, s, nameOf(i)+": "+nameOf(i-1)+" + "+nameOf(i-2))
	}
	isValue(t, s, nameOf(86), "420196140727489673")
	refusesSet(t, s, nameOf(0), nameOf(99), api.ErrOrder)
	for range 20 {
		set(t, s, nameOf(0)+": 1")
		renewed(t, s, strings.Join(s.Names()[:1], " ")+" "+strings.Join(s.Names()[2:], " "))
		isValue(t, s, nameOf(85), "420196140727489673")
		set(t, s, nameOf(0)+": 0")
	}
	isValue(t, s, nameOf(86), "420196140727489673")
	u := good(sheet.Load(s.Image()))(t)
	isValue(t, u, nameOf(86), "420196140727489673")
	// Each cell hangs on all that are ahead of it, directly.
	s = filled(t, nameOf(0)+": 1")
	for i := 1; i < api.MaxCells; i++ {
		set(t, s, nameOf(i)+": "+strings.Join(s.Names(), " + "))
	}
	isValue(t, s, nameOf(99), "2^98")
	set(t, s, nameOf(0)+": 3")
	isValue(t, s, nameOf(99), "3 * 2^98")
	if len(s.Renewed()) != api.MaxCells {
		t.Errorf("%d renewed", len(s.Renewed()))
	}
	isValue(t, good(sheet.Load(s.Image()))(t), nameOf(99), "3 * 2^98")
}

// P7.4: the time of a change does not hang on the other cells: were they calculated each time, this would take hours.
func TestTimeOfChanges(t *testing.T) {
	// A product of 97 times 97 terms takes a while.
	terms := "1"
	for i := 1; i < 97; i++ {
		terms += " + 2^" + strconv.Itoa(300*i)
	}
	s := filled(t, "x: "+terms, "light: 1")
	for i := range api.MaxCells - 2 {
		set(t, s, nameOf(i)+": x * x - x * x"+strings.Repeat(" + x * x - x * x", 20))
	}
	for i := range 20000 {
		set(t, s, "light: "+strconv.Itoa(i))
	}
	renewed(t, s, "light")
}
