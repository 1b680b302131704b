package sheet

import (
	"iter"
	"slices"

	"sandreckoner/api"
	"sandreckoner/num"
	"sandreckoner/prog"
)

// cell is a formula with what comes of it.
type cell struct {
	formula string    // the plain text
	names   []string  // the names of the formula, in order
	value   num.N     // 0 if there is an error
	err     api.Errno // the error of the formula, or OK
}

// isName reports whether a text is a name.
func isName(text string) bool {
	names, err := prog.Names(text)
	return err == api.OK && slices.Equal(names, []string{text})
}

// planned returns the cell that a name would have with a formula, before it is calculated, or why there cannot be one.
func (s *Sheet) planned(name, formula string) (cell, api.Errno) {
	if !isName(name) {
		return cell{}, api.ErrArg
	}
	plain, err := prog.Plain(formula)
	if err != api.OK {
		return cell{}, err
	}
	names, err := prog.Names(plain)
	if err != api.OK {
		return cell{}, err
	}
	for touched := range s.touched(name) {
		if _, uses := slices.BinarySearch(names, touched); uses {
			return cell{}, api.ErrOrder
		}
	}
	if _, ok := s.find(name); !ok && len(s.cells) >= api.MaxCells {
		return cell{}, api.ErrFull
	}
	return cell{formula: plain, names: names}, api.OK
}

// put puts a cell in, under a name that has none.
func (s *Sheet) put(name string, c cell) {
	s.cells[name] = c
	for _, used := range c.names {
		users := s.users[used]
		at, _ := slices.BinarySearch(users, name)
		s.users[used] = slices.Insert(users, at, name)
	}
}

// remove takes the cell of a name out, if there is one.
func (s *Sheet) remove(name string) {
	for _, used := range s.cells[name].names {
		users := s.users[used]
		at, _ := slices.BinarySearch(users, name)
		s.users[used] = slices.Delete(users, at, at+1)
		if len(s.users[used]) == 0 {
			delete(s.users, used)
		}
	}
	delete(s.cells, name)
}

// touched yields some names, and those of the cells that hang on them, each once, and behind those on which it hangs.
func (s *Sheet) touched(names ...string) iter.Seq[string] {
	return func(yield func(name string) bool) {
		var left []string // each behind the cells that hang on it
		seen := map[string]bool{}
		var walk func(names []string)
		walk = func(names []string) {
			for _, name := range names {
				if !seen[name] {
					seen[name] = true
					walk(s.users[name])
					left = append(left, name)
				}
			}
		}
		walk(names)
		for _, name := range slices.Backward(left) {
			if !yield(name) {
				return
			}
		}
	}
}

// renew calculates the cells of some names, and those that hang on them.
func (s *Sheet) renew(names ...string) {
	s.renewed = nil
	for name := range s.touched(names...) {
		c, ok := s.find(name)
		if !ok { // what has been taken out touches others all the same
			continue
		}
		c.value, c.err = prog.Eval(c.formula, s.values(c.names))
		s.cells[name] = c
		s.renewed = append(s.renewed, name)
	}
	slices.Sort(s.renewed)
}

// values returns the values of those of some names that have a cell.
func (s *Sheet) values(names []string) []prog.Name {
	var list []prog.Name
	for _, name := range names {
		if c, ok := s.find(name); ok {
			list = append(list, prog.Name{Name: name, Value: c.value, Err: c.err})
		}
	}
	return list
}
