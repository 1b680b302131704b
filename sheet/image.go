package sheet

import (
	"bytes"

	"sandreckoner/api"
)

// How many bytes the numbers of an image take.
const (
	countWidth   = 2
	nameWidth    = 1
	formulaWidth = 2
	errorWidth   = 1
	valueWidth   = 4
)

// Image returns the bytes of the sheet.
func (s *Sheet) Image() []byte {
	if s.isNil() {
		return nil
	}
	image := appendNumber(nil, len(s.cells), countWidth)
	for _, name := range s.Names() {
		c := s.cells[name]
		image = appendPiece(image, name, nameWidth)
		image = appendPiece(image, c.formula, formulaWidth)
		image = appendNumber(image, int(c.err), errorWidth)
		if c.err == api.OK {
			image = appendPiece(image, string(c.value.Bytes()), valueWidth)
		}
	}
	return image
}

// appendNumber appends a number of so many bytes, the greatest byte first.
func appendNumber(image []byte, n, width int) []byte {
	for place := width - 1; place >= 0; place-- {
		image = append(image, byte(n>>(8*place)))
	}
	return image
}

// appendPiece appends a piece behind its length, which takes so many bytes.
func appendPiece(image []byte, piece string, width int) []byte {
	return append(appendNumber(image, len(piece), width), piece...)
}

// Load returns the sheet of an image.
func Load(image []byte) (*Sheet, api.Errno) {
	s, ok := read(image)
	if !ok {
		return nil, api.ErrForm
	}
	s.renew(s.Names()...)
	// The sheet has the names and formulas of the image, and so all else that is wrong with it shows here.
	if !bytes.Equal(s.Image(), image) {
		return nil, api.ErrForm
	}
	return s, api.OK
}

// read returns the sheet of the names and formulas of an image, not calculated, if there is one, and the names are in order.
func read(image []byte) (*Sheet, bool) {
	s := New()
	r := reader{image}
	last := ""
	for range r.number(countWidth) {
		name := r.piece(nameWidth)
		formula := r.piece(formulaWidth)
		if api.Errno(r.number(errorWidth)) == api.OK {
			r.take(r.number(valueWidth))
		}
		c, err := s.planned(name, formula)
		if err != api.OK || name <= last {
			return nil, false
		}
		s.put(name, c)
		last = name
	}
	return s, true
}

// reader reads an image piece by piece. Where the bytes are at an end, it reads as much as there is.
type reader struct {
	left []byte
}

// take reads so many bytes.
func (r *reader) take(count int64) []byte {
	count = min(count, int64(len(r.left)))
	taken := r.left[:count]
	r.left = r.left[count:]
	return taken
}

// number reads a number of so many bytes, the greatest byte first.
func (r *reader) number(width int64) int64 {
	n := int64(0)
	for _, b := range r.take(width) {
		n = n<<8 | int64(b)
	}
	return n
}

// piece reads a piece behind its length, which takes so many bytes.
func (r *reader) piece(width int64) string {
	length := r.number(width)
	return string(r.take(length))
}
