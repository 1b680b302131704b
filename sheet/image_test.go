package sheet_test

import (
	"bytes"
	"encoding/binary"
	"slices"
	"strconv"
	"strings"
	"testing"

	"sandreckoner/api"
	"sandreckoner/num"
	"sandreckoner/sheet"
)

// loads checks that an image is loaded, as a sheet that has it.
func loads(t *testing.T, what string, image []byte) *sheet.Sheet {
	t.Helper()
	s, err := sheet.Load(image)
	if err != api.OK || s == nil {
		t.Fatalf("%s: error %d", what, err)
	}
	if !bytes.Equal(s.Image(), image) || !slices.Equal(s.Renewed(), s.Names()) {
		t.Errorf("%s: the image %v, not %v; renewed %q of %q", what, s.Image(), image, s.Renewed(), s.Names())
	}
	return s
}

// refusesLoad checks that bytes are refused, and that there is no sheet.
func refusesLoad(t *testing.T, what string, image []byte) {
	t.Helper()
	if s, err := sheet.Load(image); err != api.ErrForm || s != nil {
		t.Errorf("%s: Load of %v: error %d", what, image[:min(len(image), 1000)], err)
	}
}

// isOf checks the image of a sheet, and that it is loaded.
func isOf(t *testing.T, s *sheet.Sheet, want []byte) {
	t.Helper()
	if !bytes.Equal(s.Image(), want) {
		t.Errorf("the image %v, not %v", s.Image(), want)
	}
	loads(t, "the image", want)
}

// of returns the bytes of a number.
func of(n int64) []byte {
	return num.Of(n).Bytes()
}

// P7.5: the images of sheets, piece by piece.
func TestImage(t *testing.T) {
	isOf(t, sheet.New(), []byte{0, 0})
	isOf(t, filled(t, "a: 1"), append([]byte{0, 1, 1, 97, 0, 1, 49, 0, 0, 0, 0, 9}, 0, 2, 0, 0, 0, 1, 0, 0, 0))
	isOf(t, filled(t, "a: 1 >> -1"), []byte{0, 1, 1, 97, 0, 7, '1', ' ', '>', '>', ' ', '-', '1', 1})
	isOf(t, filled(t, "a: b"), []byte{0, 1, 1, 97, 0, 1, 98, 3})
	isOf(t, filled(t, "a: 2^-1"), []byte{0, 1, 1, 97, 0, 4, '2', '^', '-', '1', 4})
	isOf(t, filled(t, "a: tower(100)"), imageOf(entry("a", "tower(100)", 5, nil)))
	isOf(t, filled(t, "zero: 1-1", "abcdefgh: zero", "m: x", "ab: -2"), imageOf(
		entry("ab", "-2", 0, of(-2)), entry("abcdefgh", "zero", 0, of(0)), entry("m", "x", 3, nil), entry("zero", "1 - 1", 0, of(0))))
}

// P7.5: pieces whose lengths take all their bytes.
func TestLongImages(t *testing.T) {
	plain := "100" + strings.Repeat(" + 1", 998) + " + 10"
	isOf(t, filled(t, "long: "+strings.ReplaceAll(plain, " ", "")), imageOf(entry("long", plain, 0, of(1108))))
	if len(plain) != api.MaxSource {
		t.Errorf("%d bytes", len(plain))
	}
	// The product has 17 times 17 terms, whose exponents are that of wide and something.
	wide, rows, columns := "2^30", "2^wide", "1"
	for i := 1; i < 90; i++ {
		wide += " + 2^" + strconv.Itoa(30+3*i)
	}
	for i := 1; i < 17; i++ {
		rows += " + 2^(wide + " + strconv.Itoa(4*i) + ")"
		columns += " + 2^" + strconv.Itoa(100*i)
	}
	s := filled(t, "wide: "+wide, "rows: "+rows, "great: rows * ("+columns+")")
	x := good(s.Value("great"))(t).Bytes()
	if len(x) <= 1<<16 {
		t.Fatalf("%d bytes", len(x))
	}
	y, z := good(s.Value("rows"))(t), good(s.Value("wide"))(t)
	isOf(t, s, imageOf(entry("great", "rows * ("+columns+")", 0, x), entry("rows", rows, 0, y.Bytes()), entry("wide", wide, 0, z.Bytes())))
	full := sheet.New()
	var entries [][]byte
	for i := range api.MaxCells {
		set(t, full, nameOf(i)+": 2 * "+strconv.Itoa(i))
		entries = append(entries, entry(nameOf(i), "2 * "+strconv.Itoa(i), 0, of(int64(2*i))))
	}
	isOf(t, full, imageOf(entries...))
	refusesLoad(t, "one cell too many", imageOf(append(entries, entry("z", "1", 0, of(1)))...))
	refusesLoad(t, "one cell too many", imageOf(append([][]byte{entry("a", "1", 0, of(1))}, entries...)...))
}

// P7.5: what is wrong with an image.
func TestLoadRefuses(t *testing.T) {
	one := entry("a", "1", 0, of(1))
	for what, image := range map[string][]byte{
		"nothing":                   nil,
		"one byte":                  {0},
		"no cell, but said":         {0, 1},
		"many cells said":           {255, 255},
		"fewer cells said":          slices.Concat([]byte{0, 1}, one, entry("b", "2", 0, of(2))),
		"more cells said":           slices.Concat([]byte{0, 2}, one),
		"no cells said":             slices.Concat([]byte{0, 0}, one),
		"a byte behind":             append(imageOf(one), 0),
		"a byte behind no cells":    {0, 0, 0},
		"names out of order":        imageOf(entry("b", "2", 0, of(2)), one),
		"a name twice":              imageOf(one, one),
		"a name twice, of two":      imageOf(one, entry("a", "2", 0, of(2))),
		"a prefix behind":           imageOf(entry("ab", "2", 0, of(2)), one),
		"no name":                   imageOf(entry("", "1", 0, of(1))),
		"a function's name":         imageOf(entry("len", "1", 0, of(1))),
		"a command's name":          imageOf(entry("if", "1", 0, of(1))),
		"a great letter":            imageOf(entry("A", "1", 0, of(1))),
		"a long name":               imageOf(entry("abcdefghi", "1", 0, of(1))),
		"a name with a space":       imageOf(entry("a ", "1", 0, of(1))),
		"no formula":                imageOf(entry("a", "", 0, of(0))),
		"no formula, an error":      imageOf(entry("a", "", api.ErrForm, nil)),
		"a formula of no form":      imageOf(entry("a", "1 +", 0, of(1))),
		"no form, so told":          imageOf(entry("a", "1 +", api.ErrForm, nil)),
		"too few arguments":         imageOf(entry("a", "rem(1)", api.ErrForm, nil)),
		"no plain text, spaces":     imageOf(entry("a", "1+1", 0, of(2))),
		"no plain text, end":        imageOf(entry("a", "1 ", 0, of(1))),
		"no plain text, begin":      imageOf(entry("a", "\n1", 0, of(1))),
		"no plain text, brackets":   imageOf(entry("a", "(1)", 0, of(1))),
		"no plain text, an error":   imageOf(entry("a", "(b)", api.ErrNone, nil)),
		"another value":             imageOf(entry("a", "1", 0, of(2))),
		"the value's negative":      imageOf(entry("a", "1", 0, of(-1))),
		"no value":                  imageOf(entry("a", "1", 0, nil)),
		"a value and a byte":        imageOf(entry("a", "1", 0, append(of(1), 0))),
		"less than a value":         imageOf(entry("a", "1", 0, of(1)[:8])),
		"an error for a value":      imageOf(entry("a", "1", api.ErrNone, nil)),
		"a value for an error":      imageOf(entry("a", "b", 0, of(0))),
		"no value for an error":     imageOf(entry("a", "b", 0, nil)),
		"another error":             imageOf(entry("a", "b", api.ErrArg, nil)),
		"no error there is":         imageOf(entry("a", "b", 200, nil)),
		"the error of a name":       imageOf(entry("a", "1 >> -1", 1, nil), entry("b", "a", api.ErrNone, nil)),
		"a value with another cell": imageOf(one, entry("b", "a + 1", 0, of(3))),
		"a ring of one":             imageOf(entry("a", "a", api.ErrNone, nil)),
		"a ring of one, so told":    imageOf(entry("a", "a", api.ErrOrder, nil)),
		"a ring of two":             imageOf(entry("a", "b", api.ErrNone, nil), entry("b", "a", api.ErrNone, nil)),
		"a ring of two with values": imageOf(entry("a", "b * 0", 0, of(0)), entry("b", "a * 0", 0, of(0))),
		"a ring of three":           imageOf(entry("a", "1 >> -1 + b", api.ErrArg, nil), entry("b", "low(0) + c", api.ErrNone, nil), entry("c", "2^-1 + a", api.ErrRange, nil)),
		"the greatest length":       {0, 1, 1, 97, 0, 1, 49, 0, 255, 255, 255, 255, 0, 2, 0, 0, 0, 1, 0, 0, 0},
		"the sign bit":              {0, 1, 1, 97, 0, 1, 49, 0, 128, 0, 0, 9, 0, 2, 0, 0, 0, 1, 0, 0, 0},
		"a name to the end":         {0, 1, 255, 97},
		"a formula to the end":      {0, 1, 1, 97, 255, 255, 49},
	} {
		refusesLoad(t, what, image)
		if isImage(image) {
			t.Errorf("%s: the model takes it", what)
		}
	}
}

// P7.5: cells whose formulas have names that come behind theirs, and names without cells.
func TestLoadOfLaterNames(t *testing.T) {
	s := loads(t, "later names", imageOf(entry("a", "b + c", 0, of(7)), entry("b", "c - 1", 0, of(3)), entry("c", "4", 0, of(4)), entry("d", "a + q", api.ErrNone, nil)))
	set(t, s, "q: 1")
	renewed(t, s, "d q")
	isValue(t, s, "d", "8")
	refusesSet(t, s, "c", "d", api.ErrOrder)
	set(t, s, "c: 1")
	renewed(t, s, "a b c d")
	isValue(t, s, "d", "2")
	unset(t, s, "b")
	renewed(t, s, "a d")
}

// cornerSheets are sheets of all kinds, short enough to change each byte of their images.
func cornerSheets(t *testing.T) []*sheet.Sheet {
	t.Helper()
	return []*sheet.Sheet{
		sheet.New(), filled(t, "a: 1"), filled(t, "a: b"), filled(t, "a: 2^b - 1", "b: 3"), filled(t, "b: a + a", "a: 0", "c: 1 >> -b - 1"),
		filled(t, "abcdefgh: tower(3)", "z: len(abcdefgh)", "x: 2^-z", "y: x + w"),
	}
}

// P7.5: each part of an image, and each image of which a byte is another one, gone or added, is an image or not.
func TestLoadOfChangedImages(t *testing.T) {
	images, others := 0, 0
	check := func(image []byte) {
		t.Helper()
		if isImage(image) {
			images++
			loads(t, "a changed image", image)
			return
		}
		others++
		refusesLoad(t, "a changed image", image)
	}
	for _, s := range cornerSheets(t) {
		image := s.Image()
		loads(t, "a sheet", image)
		for at := range image {
			check(image[:at])
			check(slices.Delete(slices.Clone(image), at, at+1))
			check(slices.Insert(slices.Clone(image), at, 0))
			check(slices.Insert(slices.Clone(image), at, image[at]))
			for c := range 256 {
				changed := slices.Clone(image)
				changed[at] = byte(c)
				check(changed)
			}
		}
	}
	if images < 200 || others < 10000 {
		t.Errorf("%d images, %d others", images, others)
	}
}

// P7.5: pieces of images of random sheets, put together as they come.
func TestLoadOfMixedImages(t *testing.T) {
	images, others := 0, 0
	for seed := range int64(3000) {
		r := newSampler(seed)
		s := sheet.New()
		for range 12 {
			s.Set(r.pick("a b c d"), r.formula(r.Intn(2)))
		}
		var entries [][]byte
		for _, name := range s.Names() {
			x, err := s.Value(name)
			formula := good(s.Formula(name))(t)
			switch r.Intn(12) {
			case 0:
				continue
			case 1:
				name = r.name()
			case 2:
				formula = r.formula(1)
			case 3:
				err = api.Errno(r.Intn(9))
			case 4:
				x = x.Neg()
			}
			entries = append(entries, entry(name, formula, err, x.Bytes()))
		}
		if len(entries) > 1 && r.Intn(10) == 0 {
			entries[0], entries[1] = entries[1], entries[0]
		}
		image := imageOf(entries...)
		if isImage(image) {
			images++
			loads(t, "a mixed image", image)
		} else {
			others++
			refusesLoad(t, "a mixed image", image)
		}
	}
	if images < 300 || others < 300 {
		t.Errorf("%d images, %d others", images, others)
	}
}

// T8: a sheet has one image for each content, however it came to be, and another one for another content.
func TestOneImage(t *testing.T) {
	cells := []string{"a: b + c", "b: c * 2", "c: 2^100", "d: e", "f: a - b"}
	image := filled(t, cells...).Image()
	r := newSampler(7)
	for range 200 {
		s := sheet.New()
		for range r.Intn(20) {
			name := r.name()
			if s.Set(name, r.formula(r.Intn(3))) == api.OK && r.Intn(3) == 0 {
				unset(t, s, name)
			}
		}
		for _, name := range s.Names() {
			unset(t, s, name)
		}
		r.Shuffle(len(cells), func(i, j int) { cells[i], cells[j] = cells[j], cells[i] })
		for _, cell := range cells {
			set(t, s, cell)
		}
		if !bytes.Equal(s.Image(), image) {
			t.Fatalf("%q: %v, not %v", cells, s.Image(), image)
		}
	}
	seen := map[string]bool{string(image): true}
	for _, cell := range []string{"a: b - c", "b: c * 3", "c: 2^101", "d: g", "f: 0", "g: 1", "ff: 1"} {
		s := filled(t, append(slices.Clone(cells), cell)...)
		if seen[string(s.Image())] {
			t.Errorf("%s: an image that another sheet has", cell)
		}
		seen[string(s.Image())] = true
	}
}

// P7.5: long runs of what may stand in an image are refused, too.
func TestLoadOfLongRuns(t *testing.T) {
	for _, run := range [][]byte{{0}, {1}, {255}, {1, 97}, entry("a", "1", 0, of(1)), entry("a", "b", api.ErrNone, nil), entry("a", "a", api.ErrNone, nil)} {
		for _, count := range []int{0, 1, 2, 100, 1<<16 - 1} {
			image := binary.BigEndian.AppendUint16(nil, uint16(count))
			refusesLoad(t, "a run", append(image, bytes.Repeat(run, 1<<16)...))
		}
	}
}
