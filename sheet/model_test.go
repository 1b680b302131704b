package sheet_test

import (
	"bytes"
	"encoding/binary"
	"maps"
	"math/rand"
	"regexp"
	"slices"
	"strings"
	"testing"

	"sandreckoner/api"
	"sandreckoner/num"
	"sandreckoner/prog"
	"sandreckoner/sheet"
)

// This file tells in the words of the document what sheets tell: a model has nothing but formulas, asks for each pair of cells whether one hangs on the other, and calculates each value anew from the formulas.

// model is a sheet of plain texts.
type model struct {
	formulas map[string]string
	renewed  []string
}

func newModel() *model {
	return &model{formulas: map[string]string{}}
}

// names returns the names of the cells, in order.
func (m *model) names() []string {
	return slices.Sorted(maps.Keys(m.formulas))
}

// uses returns the names of the formula of a cell; none if there is no cell.
func (m *model) uses(name string) []string {
	if _, ok := m.formulas[name]; !ok {
		return nil
	}
	names, _ := prog.Names(m.formulas[name])
	return names
}

// hangs reports whether a cell hangs on a name.
func (m *model) hangs(cell, name string) bool {
	for _, used := range m.uses(cell) {
		if used == name || m.hangs(used, name) {
			return true
		}
	}
	return false
}

// value returns the value of a cell, or its error.
func (m *model) value(name string) (num.N, api.Errno) {
	if _, ok := m.formulas[name]; !ok {
		return num.N{}, api.ErrNone
	}
	var names []prog.Name
	for _, used := range m.uses(name) {
		x, err := m.value(used)
		names = append(names, prog.Name{Name: used, Value: x, Err: err})
	}
	return prog.Eval(m.formulas[name], names)
}

// set gives a cell a formula.
func (m *model) set(name, formula string) api.Errno {
	if !regexp.MustCompile(`^[a-z]{1,8}$`).MatchString(name) || slices.Contains(strings.Fields("rem bit len low abs min max tower print repeat if else"), name) {
		return api.ErrArg
	}
	if _, err := prog.Eval(formula, nil); err == api.ErrForm {
		return api.ErrForm
	}
	used, _ := prog.Names(formula)
	for _, n := range used {
		if n == name || m.hangs(n, name) {
			return api.ErrOrder
		}
	}
	old, ok := m.formulas[name]
	if !ok && len(m.formulas) == api.MaxCells {
		return api.ErrFull
	}
	plain, _ := prog.Plain(formula)
	m.formulas[name] = plain
	m.renewed = nil
	if old != plain {
		m.renew(name)
	}
	return api.OK
}

// unset takes a cell out.
func (m *model) unset(name string) api.Errno {
	if _, ok := m.formulas[name]; !ok {
		return api.ErrNone
	}
	delete(m.formulas, name)
	m.renew(name)
	return api.OK
}

// renew notes the cells that a change of a name calculates.
func (m *model) renew(name string) {
	m.renewed = nil
	for _, cell := range m.names() {
		if cell == name || m.hangs(cell, name) {
			m.renewed = append(m.renewed, cell)
		}
	}
}

// image returns the bytes of the sheet.
func (m *model) image() []byte {
	out := binary.BigEndian.AppendUint16(nil, uint16(len(m.formulas)))
	for _, name := range m.names() {
		x, err := m.value(name)
		out = append(out, entry(name, m.formulas[name], err, x.Bytes())...)
	}
	return out
}

// entry returns what an image has of a cell.
func entry(name, formula string, err api.Errno, value []byte) []byte {
	out := append([]byte{byte(len(name))}, name...)
	out = binary.BigEndian.AppendUint16(out, uint16(len(formula)))
	out = append(out, formula...)
	out = append(out, byte(err))
	if err == api.OK {
		out = binary.BigEndian.AppendUint32(out, uint32(len(value)))
		out = append(out, value...)
	}
	return out
}

// imageOf returns the image of some entries.
func imageOf(entries ...[]byte) []byte {
	out := binary.BigEndian.AppendUint16(nil, uint16(len(entries)))
	return append(out, bytes.Join(entries, nil)...)
}

// isImage reports whether bytes are the image of a sheet, by looking at each of its pieces.
func isImage(b []byte) bool {
	if len(b) < 2 {
		return false
	}
	m := newModel()
	last := ""
	rest := b[2:]
	errs := map[string]byte{}
	values := map[string][]byte{}
	for range binary.BigEndian.Uint16(b) {
		name, left, ok := cut(rest, 1)
		if !ok || string(name) <= last {
			return false
		}
		last = string(name)
		formula, left, ok := cut(left, 2)
		if plain, err := prog.Plain(string(formula)); !ok || err != api.OK || plain != string(formula) || len(left) == 0 || m.set(last, plain) != api.OK {
			return false
		}
		errs[last], rest = left[0], left[1:]
		if errs[last] == 0 {
			values[last], rest, ok = cut(rest, 4)
			if !ok {
				return false
			}
		}
	}
	for name := range errs {
		x, err := m.value(name)
		if err != api.Errno(errs[name]) || err == api.OK && !bytes.Equal(values[name], x.Bytes()) {
			return false
		}
	}
	return len(rest) == 0
}

// cut returns the piece behind its length, which takes so many bytes, and what is left.
func cut(b []byte, width int) (piece, left []byte, ok bool) {
	if len(b) < width {
		return nil, nil, false
	}
	length := 0
	for _, c := range b[:width] {
		length = length<<8 + int(c)
	}
	b = b[width:]
	if len(b) < length {
		return nil, nil, false
	}
	return b[:length], b[length:], true
}

// agrees checks that a sheet tells in all ways what a model does.
func agrees(t *testing.T, what string, s *sheet.Sheet, m *model) {
	t.Helper()
	if !slices.Equal(s.Names(), m.names()) || !slices.Equal(s.Renewed(), m.renewed) {
		t.Fatalf("%s: the names %q, renewed %q; not %q, %q", what, s.Names(), s.Renewed(), m.names(), m.renewed)
	}
	for _, name := range append(m.names(), "zz", "", "A") {
		x, err := s.Value(name)
		want, wantErr := m.value(name)
		if err != wantErr || x.Cmp(want) != 0 {
			t.Fatalf("%s: %s is %v, error %d; not %v, error %d", what, name, x.Bytes(), err, want.Bytes(), wantErr)
		}
		formula, err := s.Formula(name)
		if plain, ok := m.formulas[name]; formula != plain || (err == api.OK) != ok || err != api.OK && err != api.ErrNone {
			t.Fatalf("%s: the formula of %s is %q, error %d; not %q", what, name, formula, err, plain)
		}
	}
	if !bytes.Equal(s.Image(), m.image()) {
		t.Fatalf("%s: the image\n%v, not\n%v", what, s.Image(), m.image())
	}
}

// sampler makes names and formulas.
type sampler struct {
	*rand.Rand
}

func newSampler(seed int64) sampler {
	return sampler{rand.New(rand.NewSource(seed))}
}

// pick returns one of some words.
func (s sampler) pick(words string) string {
	list := strings.Fields(words)
	return list[s.Intn(len(list))]
}

// name makes a name of few, or now and then what is none.
func (s sampler) name() string {
	if s.Intn(40) == 0 {
		return []string{"", "A", "if", "len", "abcdefghi", " a", "a ", "(a)", "1", "a1", "-a"}[s.Intn(11)]
	}
	return s.pick("a b c d e f g h")
}

// formula makes a formula of so many levels, at most; now and then one that is not well formed.
func (s sampler) formula(levels int) string {
	if s.Intn(60) == 0 {
		return s.pick("A 01 () rem(1) max(1) len(1,2) 1+ print =")
	}
	if levels == 0 || s.Intn(5) == 0 {
		return s.pick("0 1 2 3 100 -1 a b c d e f g h 2^100 2^2^100 low(0)")
	}
	x, y := s.formula(levels-1), s.formula(levels-1)
	space := []string{"", " ", "\n"}[s.Intn(3)]
	switch s.Intn(4) {
	case 0:
		return "(" + space + x + ")" + space + s.pick("+ - *") + "(" + y + ")"
	case 1:
		return s.pick("- 2^ (") + "(" + x + ")"
	case 2:
		return s.pick("rem bit min max") + "(" + x + "," + space + y + ")"
	}
	return x + space + s.pick("+ - * << >>") + space + y
}
