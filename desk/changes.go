package desk

import (
	"slices"

	"sandreckoner/api"
)

// change is what was done to a sheet.
type change struct {
	back  func() api.Errno // takes it back
	again func() api.Errno // does it again
}

// changes are those that can be taken back, and those that were taken back and can be done again, the last one of each at the end.
type changes struct {
	done   []change
	undone []change
}

// add adds a change that was done now. What was taken back before cannot be done again behind it.
func (c *changes) add(done change) {
	c.done = append(c.done, done)
	if len(c.done) > api.MaxUndo {
		c.done = slices.Delete(c.done, 0, 1)
	}
	c.undone = nil
}

// undo takes the last change back, if there is one.
func (c *changes) undo() api.Errno {
	last, ok := handOver(&c.done, &c.undone)
	if !ok {
		return api.ErrNone
	}
	return last.back()
}

// redo does the last change that was taken back again, if there is one.
func (c *changes) redo() api.Errno {
	last, ok := handOver(&c.undone, &c.done)
	if !ok {
		return api.ErrNone
	}
	return last.again()
}

// handOver moves the last change of a list to the end of another one, and returns it, if there is one.
func handOver(from, to *[]change) (change, bool) {
	place := len(*from) - 1
	if place < 0 {
		return change{}, false
	}
	moved := (*from)[place]
	*from = slices.Delete(*from, place, place+1)
	*to = append(*to, moved)
	return moved, true
}

// change makes a change of the cell of a name, which can be taken back if it is not refused.
func (d *desk) change(name string, do func() api.Errno) (string, api.Errno) {
	back := d.restorer(name)
	err := do()
	if err != api.OK {
		return "", err
	}
	d.changes.add(change{back: back, again: do})
	d.renewed = d.sheet.Renewed()
	return words[api.OK], api.OK
}

// restorer returns a function that makes the cell of a name what it is now.
func (d *desk) restorer(name string) func() api.Errno {
	formula, err := d.sheet.Formula(name)
	if err != api.OK {
		return func() api.Errno { return d.sheet.Unset(name) }
	}
	return func() api.Errno { return d.sheet.Set(name, formula) }
}

// move answers a change that was taken back, or done again, or that there is none.
func (d *desk) move(err api.Errno) (string, api.Errno) {
	if err != api.OK {
		return "", err
	}
	// It is as if the sheet had been loaded, though only the cells that hang on the change are calculated.
	d.renewed = d.sheet.Names()
	return words[api.OK], api.OK
}
