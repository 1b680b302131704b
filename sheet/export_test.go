package sheet

import (
	"slices"

	"sandreckoner/api"
	"sandreckoner/num"
)

// This file lets the tests see which cells a change calculates, and in which order.

// Touched returns what touched yields.
func (s *Sheet) Touched(names ...string) []string {
	return slices.Collect(s.touched(names...))
}

// FirstTouched returns as many of the names that touched yields, and asks for no more.
func (s *Sheet) FirstTouched(count int, names ...string) []string {
	var first []string
	for name := range s.touched(names...) {
		first = append(first, name)
		if len(first) == count {
			break
		}
	}
	return first
}

// Mark gives a cell a value that its formula does not have: it is kept until the cell is calculated again.
func (s *Sheet) Mark(name string, value num.N) {
	c := s.cells[name]
	c.value, c.err = value, api.OK
	s.cells[name] = c
}

// Used returns of how many names the sheet knows in which cells' formulas they stand.
func (s *Sheet) Used() int {
	return len(s.users)
}
