package sheet_test

import (
	"bytes"
	"fmt"
	"slices"
	"strings"
	"testing"

	"sandreckoner/api"
	"sandreckoner/num"
	"sandreckoner/prog"
	"sandreckoner/sheet"
)

// good returns the result of a call that has to succeed.
func good[T any](x T, err api.Errno) func(t *testing.T) T {
	return func(t *testing.T) T {
		t.Helper()
		if err != api.OK {
			t.Fatalf("error %d", err)
		}
		return x
	}
}

// filled returns a sheet of cells that are set one after another, each "name: formula".
func filled(t *testing.T, cells ...string) *sheet.Sheet {
	t.Helper()
	s := sheet.New()
	for _, cell := range cells {
		set(t, s, cell)
	}
	return s
}

// set sets a cell, "name: formula", which has to succeed.
func set(t *testing.T, s *sheet.Sheet, cell string) {
	t.Helper()
	name, formula, _ := strings.Cut(cell, ": ")
	if err := s.Set(name, formula); err != api.OK {
		t.Fatalf("%s: error %d", cell, err)
	}
}

// unset takes a cell out, which has to be there.
func unset(t *testing.T, s *sheet.Sheet, name string) {
	t.Helper()
	if err := s.Unset(name); err != api.OK {
		t.Fatalf("Unset of %s: error %d", name, err)
	}
}

// isValue checks that a cell has the value of a formula without names.
func isValue(t *testing.T, s *sheet.Sheet, name, formula string) {
	t.Helper()
	x, err := s.Value(name)
	want := good(prog.Eval(formula, nil))(t)
	if err != api.OK || x.Cmp(want) != 0 || !bytes.Equal(x.Bytes(), want.Bytes()) {
		t.Errorf("%s is %v, error %d; not %s", name, x.Bytes(), err, formula)
	}
}

// hasError checks that a cell has an error, and no value.
func hasError(t *testing.T, s *sheet.Sheet, name string, want api.Errno) {
	t.Helper()
	if x, err := s.Value(name); err != want || x != (num.N{}) {
		t.Errorf("%s: error %d and the bytes %v, not error %d and 0", name, err, x.Bytes(), want)
	}
}

// renewed checks which cells the last change has calculated.
func renewed(t *testing.T, s *sheet.Sheet, want string) {
	t.Helper()
	if list := s.Renewed(); !slices.Equal(list, strings.Fields(want)) {
		t.Errorf("renewed %q, not %s", list, want)
	}
}

// refused checks that a change is refused, and that nothing has changed.
func refused(t *testing.T, s *sheet.Sheet, what string, want api.Errno, change func() api.Errno) {
	t.Helper()
	image, list := s.Image(), s.Renewed()
	if err := change(); err != want {
		t.Errorf("%s: error %d, not %d", what, err, want)
	}
	if !bytes.Equal(s.Image(), image) || !slices.Equal(s.Renewed(), list) {
		t.Errorf("%s has changed the sheet", what)
	}
}

// refusesSet checks that Set refuses.
func refusesSet(t *testing.T, s *sheet.Sheet, name, formula string, want api.Errno) {
	t.Helper()
	what := fmt.Sprintf("%.20q: %.40q", name, formula)
	refused(t, s, what, want, func() api.Errno { return s.Set(name, formula) })
}

// nameOf returns one of 100 names, which are in the order of their numbers.
func nameOf(i int) string {
	return string([]byte{'a' + byte(i/26), 'a' + byte(i%26), 'z'})
}

// P7.1 to P7.5: the document's examples.
func TestExamples(t *testing.T) {
	s := sheet.New()
	renewed(t, s, "")
	set(t, s, "a: 2^100")
	set(t, s, "b:  2^a+1 ")
	isValue(t, s, "b", "2^(2^100) + 1")
	if formula := good(s.Formula("b"))(t); formula != "2^a + 1" {
		t.Errorf("the formula of b: %q", formula)
	}
	renewed(t, s, "b")
	set(t, s, "a: 3")
	renewed(t, s, "a b")
	set(t, s, "b: 2^a + 1")
	renewed(t, s, "")

	s = filled(t, "x: y")
	hasError(t, s, "x", api.ErrNone)
	refusesSet(t, s, "y", "x", api.ErrOrder)
	refusesSet(t, s, "y", "1 >> -x", api.ErrOrder)

	s = filled(t, "x: y + z", "y: low(0)", "z: 1 >> -1")
	hasError(t, s, "x", api.ErrNone)
	set(t, s, "y: 1")
	hasError(t, s, "x", api.ErrArg)

	s = filled(t, "b: 1", "c: b")
	unset(t, s, "b")
	renewed(t, s, "c")
	hasError(t, s, "c", api.ErrNone)

	refusesSet(t, s, "A", "1", api.ErrArg)
	refusesSet(t, s, "rem", "1", api.ErrArg)
	refusesSet(t, s, "a", "rem(1)", api.ErrForm)
}

// P7.1: the value of a cell is that of its formula with the values of the cells, however they came to be, and changes with them.
func TestValues(t *testing.T) {
	s := filled(t, "c: a * b", "a: 2^100", "b: a + 1")
	isValue(t, s, "c", "2^200 + 2^100")
	set(t, s, "a: 2^2^100 - 1")
	isValue(t, s, "a", "2^2^100 - 1")
	isValue(t, s, "b", "2^2^100")
	isValue(t, s, "c", "(2^2^100 - 1) << 2^100")
	set(t, s, "b: 5")
	isValue(t, s, "c", "(2^2^100 - 1) * 5")
	set(t, s, "c: a - a")
	isValue(t, s, "c", "0")
	set(t, s, "zero: c")
	isValue(t, s, "zero", "0")
	set(t, s, "longname: rem(a, 7) + bit(a, b) + tower(3)")
	isValue(t, s, "longname", "rem(2^2^100 - 1, 7) + 1 + 16")
	unset(t, s, "c")
	hasError(t, s, "c", api.ErrNone)
	set(t, s, "c: 7")
	isValue(t, s, "zero", "7")
}

// P7.1: the error of a cell is the first one that arises, and that of a cell whose name is reached.
func TestErrors(t *testing.T) {
	s := filled(t, "arg: 1 >> -1", "range: 2^-1", "full: tower(100)", "nothing: low(0)", "missing: nowhere")
	for cell, want := range map[string]api.Errno{
		"arg": api.ErrArg, "range": api.ErrRange, "full": api.ErrFull, "nothing": api.ErrNone, "missing": api.ErrNone, "nowhere": api.ErrNone,
	} {
		hasError(t, s, cell, want)
	}
	for formula, want := range map[string]api.Errno{
		"arg": api.ErrArg, "range": api.ErrRange, "full": api.ErrFull, "nothing": api.ErrNone, "missing": api.ErrNone, "nowhere": api.ErrNone,
		"arg + range": api.ErrArg, "range + arg": api.ErrRange, "full * range": api.ErrFull, "nowhere - full": api.ErrNone, "full - nowhere": api.ErrFull,
		"1 >> -1 + range": api.ErrArg, "range + 1 >> -1": api.ErrRange, "2^-1 + full": api.ErrRange, "min(1, full)": api.ErrFull, "rem(missing, 0)": api.ErrNone,
		"1 >> -range": api.ErrRange, "0 * full": api.ErrFull, "x": api.ErrRange,
	} {
		set(t, s, "x: range")
		set(t, s, "y: "+formula)
		hasError(t, s, "y", want)
		set(t, s, "z: 1 + y")
		hasError(t, s, "z", want)
	}
	set(t, s, "full: 2")
	set(t, s, "y: x + full")
	hasError(t, s, "y", api.ErrRange)
	set(t, s, "range: 3")
	isValue(t, s, "y", "5")
	isValue(t, s, "z", "6")
	unset(t, s, "x")
	hasError(t, s, "z", api.ErrNone)
}

// P7.1: a value that is not allowed with those of other cells is an error of the cell that has it.
func TestFullValues(t *testing.T) {
	s := filled(t, "t: tower(99)", "u: 2^t", "v: u - u")
	isValue(t, s, "t", "tower(99)")
	hasError(t, s, "u", api.ErrFull)
	hasError(t, s, "v", api.ErrFull)
	set(t, s, "t: tower(98)")
	isValue(t, s, "u", "tower(99)")
	isValue(t, s, "v", "0")
}

// P7.2: names.
func TestNamesOfCells(t *testing.T) {
	for _, name := range []string{"a", "z", "abcdefgh", "lenx", "xlen", "iff", "towers", "remm", "ab"} {
		s := filled(t, name+": 1")
		isValue(t, s, name, "1")
		if !slices.Equal(s.Names(), []string{name}) {
			t.Errorf("%q", s.Names())
		}
	}
	s := filled(t, "a: 1")
	for _, name := range []string{
		"", " ", "A", "aB", "Ab", "abcdefghi", "rem", "bit", "len", "low", "abs", "min", "max", "tower", "print", "repeat", "if", "else",
		"1", "0", "a1", "1a", "a b", " a", "a ", "a\n", "\ta", "(a)", "a+a", "-a", "2^a", "len(a)", "a.", "é", "\xff", "a\x00", "\x00", strings.Repeat("a", 300), strings.Repeat("a", 5000), "a;", "a = 1",
	} {
		for _, formula := range []string{"1", "a", "", "(", "b"} {
			refusesSet(t, s, name, formula, api.ErrArg)
		}
		hasError(t, s, name, api.ErrNone)
		refused(t, s, "Unset", api.ErrNone, func() api.Errno { return s.Unset(name) })
		if formula, err := s.Formula(name); formula != "" || err != api.ErrNone {
			t.Errorf("the formula of %.20q: %q, error %d", name, formula, err)
		}
	}
}

// P7.2: formulas that are not well formed, also such that would hang on themselves.
func TestFormsOfFormulas(t *testing.T) {
	s := filled(t, "a: b", "c: 2")
	for _, name := range []string{"a", "b", "c", "d"} {
		for _, formula := range []string{
			"", " ", "(", "1 +", "01", "A", "a b", "12^3", "rem(1)", "rem(1, 2, 3)", "len()", "b + len(1, 2)", name + " +", "a + b + c + d + max(1)", "print", "if", "tower", "1;", "c = 1", "\x00", "1\r",
			strings.Repeat("(", api.MaxNest+1) + "1" + strings.Repeat(")", api.MaxNest+1), strings.Repeat("-", api.MaxNest+1) + name, strings.Repeat(" ", api.MaxSource) + "1",
			"100" + strings.Repeat("+1", 998) + "+100", // its plain text is too long
		} {
			refusesSet(t, s, name, formula, api.ErrForm)
		}
	}
	set(t, s, "d: "+strings.Repeat("-", api.MaxNest)+"c")
	isValue(t, s, "d", "2")
	set(t, s, "e: "+strings.Repeat(" ", api.MaxSource-1)+"1")
	if formula := good(s.Formula("e"))(t); formula != "1" {
		t.Errorf("%q", formula)
	}
}

// P7.3: the formula of a cell is its plain text.
func TestFormulas(t *testing.T) {
	for formula, plain := range map[string]string{
		"((a)+(b-c))*2^(2^(x))<<(1+2)": "(a + (b - c)) * 2^2^x << (1 + 2)", "\t1\n": "1", "rem( 1 ,2 )": "rem(1, 2)", "- - y": "--y", "(((z)))": "z",
	} {
		s := filled(t, "cell: "+formula)
		if text := good(s.Formula("cell"))(t); text != plain {
			t.Errorf("%q: %q, not %q", formula, text, plain)
		}
	}
}

// P7.2: no cell hangs on itself, also not by others, by formulas with errors, or by what is not reached.
func TestRings(t *testing.T) {
	s := filled(t, "a: b", "b: c * 2", "c: d + e")
	for _, cell := range []string{"e: e", "e: a", "e: b", "e: c", "d: 1 + a", "d: 0 * c", "d: low(0) + b", "d: min(1, 1 >> -a)", "c: c", "c: b", "c: a", "c: d + a", "b: a", "a: a", "d: d", "x: x", "x: 1 + (2 - x)", "x: 2^-1 + x"} {
		name, formula, _ := strings.Cut(cell, ": ")
		refusesSet(t, s, name, formula, api.ErrOrder)
	}
	set(t, s, "e: x")
	refusesSet(t, s, "x", "a", api.ErrOrder)
	// What goes round no more may be set.
	set(t, s, "c: d")
	set(t, s, "x: a")
	refusesSet(t, s, "c", "d + e", api.ErrOrder)
	refusesSet(t, s, "d", "x", api.ErrOrder)
	unset(t, s, "a")
	set(t, s, "d: x + e")
	set(t, s, "e: 1")
	refusesSet(t, s, "a", "b", api.ErrOrder)
	set(t, s, "a: e")
	isValue(t, s, "b", "4")
}

// P7.1, P7.2: a name without a cell hangs on nothing, and a cell that is taken out neither.
func TestCellsTakenOut(t *testing.T) {
	s := filled(t, "a: 1", "b: a", "c: b")
	refusesSet(t, s, "a", "c", api.ErrOrder)
	unset(t, s, "b")
	set(t, s, "a: c")
	hasError(t, s, "a", api.ErrNone)
	refusesSet(t, s, "b", "a", api.ErrOrder)
	set(t, s, "b: 5")
	isValue(t, s, "a", "5")
	for _, name := range []string{"a", "b", "c"} {
		unset(t, s, name)
	}
	if s.Used() != 0 || len(s.Names()) != 0 || !bytes.Equal(s.Image(), []byte{0, 0}) {
		t.Errorf("an empty sheet: %d names are used, %q, %v", s.Used(), s.Names(), s.Image())
	}
}

// P7.2: at most MaxCells cells; what tells it comes behind the other errors.
func TestMostCells(t *testing.T) {
	s := sheet.New()
	for i := range api.MaxCells {
		set(t, s, nameOf(i)+": q + r")
	}
	for _, name := range []string{"q", "r", "other"} {
		refusesSet(t, s, name, "1", api.ErrFull)
		refusesSet(t, s, name, name, api.ErrOrder)
		refusesSet(t, s, name, "1 +", api.ErrForm)
	}
	refusesSet(t, s, "q", nameOf(7), api.ErrOrder)
	refusesSet(t, s, "other", nameOf(7), api.ErrFull)
	refusesSet(t, s, "OTHER", "1", api.ErrArg)
	set(t, s, nameOf(3)+": q + r")
	set(t, s, nameOf(3)+": 4")
	if len(s.Names()) != api.MaxCells {
		t.Errorf("%d cells", len(s.Names()))
	}
	unset(t, s, nameOf(9))
	set(t, s, "q: "+nameOf(3))
	refusesSet(t, s, nameOf(9), "1", api.ErrFull)
	if len(s.Names()) != api.MaxCells {
		t.Errorf("%d cells", len(s.Names()))
	}
}

// P7.3: the names of all cells are in order, whatever the order in which they came.
func TestOrderOfNames(t *testing.T) {
	s := filled(t, "b: 1", "aa: 2", "z: b", "ab: q", "a: 0", "abc: a")
	if list := s.Names(); !slices.Equal(list, []string{"a", "aa", "ab", "abc", "b", "z"}) {
		t.Errorf("%q", list)
	}
}

// P7.1 to P7.5: any changes, compared with a model.
func TestAnyChanges(t *testing.T) {
	counts := map[api.Errno]int{}
	for seed := range int64(60) {
		r := newSampler(seed)
		s, m := sheet.New(), newModel()
		for range 60 {
			name, formula := r.name(), r.formula(r.Intn(3))
			if r.Intn(4) == 0 {
				err := s.Unset(name)
				if want := m.unset(name); err != want {
					t.Fatalf("Unset of %q: error %d, not %d", name, err, want)
				}
				agrees(t, "Unset of "+name, s, m)
				continue
			}
			err := s.Set(name, formula)
			if want := m.set(name, formula); err != want {
				t.Fatalf("%q: %q: error %d, not %d", name, formula, err, want)
			}
			counts[err]++
			agrees(t, name+": "+formula, s, m)
			if r.Intn(10) == 0 {
				s = good(sheet.Load(s.Image()))(t)
				m.renewed = m.names()
				agrees(t, "Load", s, m)
			}
		}
	}
	for _, err := range []api.Errno{api.OK, api.ErrArg, api.ErrForm, api.ErrOrder} {
		if counts[err] < 40 {
			t.Errorf("only %d with the error %d", counts[err], err)
		}
	}
}
