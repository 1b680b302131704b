package sheet_test

import (
	"bytes"
	"slices"
	"strings"
	"testing"

	"sandreckoner/api"
	"sandreckoner/num"
	"sandreckoner/sheet"
)

// P1, P7.2 to P7.5: a nil sheet, and the zero value, have no cells, and refuse changes.
func TestNilSheets(t *testing.T) {
	for range 2 {
		for _, s := range []*sheet.Sheet{nil, {}, new(sheet.Sheet)} {
			for _, x := range [][2]string{{"a", "1"}, {"", ""}, {"A", "1"}, {"a", "("}, {"a", "a"}} {
				if err := s.Set(x[0], x[1]); err != api.ErrArg {
					t.Errorf("Set: error %d", err)
				}
			}
			for _, name := range []string{"a", "", "A"} {
				if err := s.Unset(name); err != api.ErrArg {
					t.Errorf("Unset: error %d", err)
				}
				hasError(t, s, name, api.ErrNone)
				if formula, err := s.Formula(name); formula != "" || err != api.ErrNone {
					t.Errorf("Formula: %q, error %d", formula, err)
				}
			}
			if len(s.Names()) != 0 || len(s.Renewed()) != 0 || len(s.Image()) != 0 {
				t.Errorf("%q, %q, %v", s.Names(), s.Renewed(), s.Image())
			}
		}
	}
	refusesLoad(t, "the image of a nil sheet", (*sheet.Sheet)(nil).Image())
}

// P7.2: a sheet without cells takes some, also one from which the last has been taken out, or that was loaded.
func TestEmptySheets(t *testing.T) {
	emptied := filled(t, "a: 1")
	unset(t, emptied, "a")
	for _, s := range []*sheet.Sheet{sheet.New(), emptied, good(sheet.Load([]byte{0, 0}))(t)} {
		if len(s.Names()) != 0 || len(s.Renewed()) != 0 || !bytes.Equal(s.Image(), []byte{0, 0}) {
			t.Errorf("%q, %q, %v", s.Names(), s.Renewed(), s.Image())
		}
		hasError(t, s, "a", api.ErrNone)
		refused(t, s, "Unset", api.ErrNone, func() api.Errno { return s.Unset("a") })
		set(t, s, "a: 2")
		isValue(t, s, "a", "2")
	}
}

// P3: what is returned is the caller's own.
func TestResultsStandAlone(t *testing.T) {
	s := filled(t, "b: 2^100", "a: b + 1", "c: a", "b: 2^2^100")
	image := s.Image()
	for range 2 {
		for _, list := range [][]string{s.Names(), s.Renewed()} {
			if !slices.Equal(list, []string{"a", "b", "c"}) {
				t.Fatalf("%q", list)
			}
			clear(list)
			_ = append(list[:1], "x", "y")
		}
		again := s.Image()
		if !bytes.Equal(again, image) {
			t.Fatal("another image")
		}
		clear(again[:cap(again)])
		isValue(t, s, "c", "2^2^100 + 1")
	}
	names, list := s.Names(), s.Renewed()
	unset(t, s, "b")
	set(t, s, "aa: 1")
	if !slices.Equal(names, []string{"a", "b", "c"}) || !slices.Equal(list, names) {
		t.Errorf("%q, %q", names, list)
	}
}

// P3: a sheet that was loaded hangs neither on the bytes nor on the sheet whose image they are.
func TestSheetsStandAlone(t *testing.T) {
	s := filled(t, "a: b", "b: 2")
	image := s.Image()
	kept := slices.Clone(image)
	u, v := good(sheet.Load(image))(t), good(sheet.Load(image))(t)
	if !bytes.Equal(image, kept) {
		t.Error("Load has changed the bytes")
	}
	clear(image)
	set(t, s, "b: 3")
	set(t, u, "b: 4")
	unset(t, v, "b")
	isValue(t, s, "a", "3")
	isValue(t, u, "a", "4")
	hasError(t, v, "a", api.ErrNone)
	if u.Set("b", "a") != api.ErrOrder || v.Set("a", "1") != api.OK || v.Set("b", "a") != api.OK {
		t.Error("sheets hang on each other")
	}
	isValue(t, s, "a", "3")
	isValue(t, u, "a", "4")
	isValue(t, v, "b", "1")
}

// P3: a value that was told stays.
func TestValuesStay(t *testing.T) {
	s := filled(t, "a: 2^2^100 - 1")
	x := good(s.Value("a"))(t)
	b := x.Bytes()
	set(t, s, "a: 5")
	set(t, s, "b: a")
	unset(t, s, "a")
	if !bytes.Equal(x.Bytes(), b) || x.Cmp(num.Of(5)) == 0 {
		t.Error("a value has changed")
	}
}

// P4: the same calls tell the same again.
func TestSameAgain(t *testing.T) {
	var images [][]byte
	var lists []string
	for range 10 {
		r := newSampler(5)
		s := sheet.New()
		list := ""
		for range 80 {
			s.Set(r.name(), r.formula(2))
			list += strings.Join(s.Renewed(), " ") + ";"
		}
		images = append(images, s.Image())
		lists = append(lists, list)
	}
	if len(slices.CompactFunc(images, bytes.Equal)) != 1 || len(slices.Compact(lists)) != 1 {
		t.Error("the same calls tell something else")
	}
}

// P1: no names, formulas and bytes make a call panic.
func TestAnyBytes(t *testing.T) {
	r := newSampler(3)
	s := filled(t, "a: b", "b: 1")
	text := func(pieces string) string {
		out := ""
		for range r.Intn(8) {
			out += r.pick(pieces)
		}
		return out
	}
	for range 20000 {
		name, formula := text("a b A 1 é \x00 \xff ( if"), text("a b + - ( ) 2^ 1 , len( \xff A")
		s.Set(name, formula)
		s.Value(name)
		s.Formula(name)
		if r.Intn(10) == 0 {
			s.Unset(name)
		}
		image := []byte(text("\x00 \x00 \x01 \x01 \x02 a b 1 ( \xff"))
		if u, err := sheet.Load(image); (err == api.OK) != isImage(image) || (u == nil) != (err != api.OK) {
			t.Fatalf("Load of %v: error %d", image, err)
		}
	}
	loads(t, "what is left", s.Image())
}
