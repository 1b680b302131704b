package desk

import (
	"strconv"
	"strings"

	"sandreckoner/api"
	"sandreckoner/baum"
	"sandreckoner/higman"
	"sandreckoner/num"
	"sandreckoner/prog"
	"sandreckoner/rest"
	"sandreckoner/turn"
)

// command reads what stands behind it in a line, all of it ahead of doing anything, and returns its answer, or an error in place of it.
type command func(r *reader) (string, api.Errno)

// commands returns the commands of a desk.
func (d *desk) commands() map[string]command {
	return map[string]command{
		"set":     d.set,
		"unset":   d.unset,
		"show":    d.show,
		"form":    d.form,
		"renewed": d.tellRenewed,
		"value":   d.value,
		"cmp":     d.cmp,
		"last":    d.digits(rest.Last),
		"lead":    d.digits(rest.Lead),
		"recur":   d.recur,
		"baum":    askBaum,
		"trace":   traceBaum,
		"higman":  askHigman,
		"run":     run,
		"undo":    d.undo,
		"redo":    d.redo,
		"look":    d.look,
	}
}

// set gives a cell a formula.
func (d *desk) set(r *reader) (string, api.Errno) {
	name := r.upTo("=").name()
	f := r.formula()
	return d.change(name, func() api.Errno { return d.sheet.Set(name, f.text) })
}

// unset takes a cell out.
func (d *desk) unset(r *reader) (string, api.Errno) {
	name := r.name()
	return d.change(name, func() api.Errno { return d.sheet.Unset(name) })
}

// undo takes the last change back.
func (d *desk) undo(r *reader) (string, api.Errno) {
	r.end()
	return d.move(d.changes.undo())
}

// redo does the change again that was taken back last.
func (d *desk) redo(r *reader) (string, api.Errno) {
	r.end()
	return d.move(d.changes.redo())
}

// show answers with the value of a cell.
func (d *desk) show(r *reader) (string, api.Errno) {
	return textOf(d.sheet.Value(r.name()))
}

// form answers with the formula of a cell.
func (d *desk) form(r *reader) (string, api.Errno) {
	return d.sheet.Formula(r.name())
}

// tellRenewed answers with the names of the cells that the last change has renewed.
func (d *desk) tellRenewed(r *reader) (string, api.Errno) {
	r.end()
	if len(d.renewed) == 0 {
		return "-", api.OK
	}
	return strings.Join(d.renewed, space), api.OK
}

// look answers with a number that tells the image of the sheet.
func (d *desk) look(r *reader) (string, api.Errno) {
	r.end()
	h := uint64(14695981039346656037)
	for _, c := range d.sheet.Image() {
		h = (h ^ uint64(c)) * 1099511628211
	}
	digits := strconv.FormatUint(h, 16)
	return strings.Repeat("0", 16-len(digits)) + digits, api.OK
}

// value answers with the value of a formula.
func (d *desk) value(r *reader) (string, api.Errno) {
	return textOf(d.eval(r.formula()))
}

// cmp answers with the order of the values of two formulas.
func (d *desk) cmp(r *reader) (string, api.Errno) {
	left := r.upTo(";").formula()
	right := r.formula()
	x, err := d.eval(left)
	if err != api.OK {
		return "", err
	}
	y, err := d.eval(right)
	if err != api.OK {
		return "", err
	}
	switch x.Cmp(y) {
	case -1:
		return "less", api.OK
	case 0:
		return "same", api.OK
	}
	return "greater", api.OK
}

// digits returns a command that answers with some digits of the value of a formula.
func (d *desk) digits(of func(x num.N, count int) (int64, api.Errno)) command {
	return func(r *reader) (string, api.Errno) {
		count := r.number()
		x, err := d.eval(r.formula())
		if err != api.OK {
			return "", err
		}
		n, err := of(x, count)
		if err != api.OK {
			return "", err
		}
		return strconv.FormatInt(n, 10), api.OK
	}
}

// recur answers with a number of a sequence, at the place that is the value of a formula.
func (d *desk) recur(r *reader) (string, api.Errno) {
	head := r.upTo(";")
	m := head.number()
	place := head.formula()
	factors := r.upTo(";").numbers()
	first := r.numbers()
	n, err := d.eval(place)
	if err != api.OK {
		return "", err
	}
	f, err := turn.Recur(factors, first, n, m)
	if err != api.OK {
		return "", err
	}
	return strconv.Itoa(f), api.OK
}

// askBaum answers whether a word is the unit of Baumslag's group.
func askBaum(r *reader) (string, api.Errno) {
	unit, err := baum.Unit(r.letters())
	if err != api.OK {
		return "", err
	}
	if unit {
		return "unit", api.OK
	}
	return "not", api.OK
}

// traceBaum answers with how a word of Baumslag's group is reduced.
func traceBaum(r *reader) (string, api.Errno) {
	steps, left, _, err := baum.Trace(r.letters())
	if err != api.OK {
		return "", err
	}
	return strconv.Itoa(len(steps)) + " " + strconv.Itoa(left), api.OK
}

// askHigman answers whether a word is the unit of Higman's group, and otherwise with its length.
func askHigman(r *reader) (string, api.Errno) {
	word := r.letters()
	unit, err := higman.Unit(word)
	if err != api.OK {
		return "", err
	}
	if unit {
		return "unit", api.OK
	}
	n, err := higman.Length(word)
	if err != api.OK {
		return "", err
	}
	return "length " + strconv.Itoa(n), api.OK
}

// run answers with what a program prints, and how it ends.
func run(r *reader) (string, api.Errno) {
	printed, err, steps := prog.Run(r.left)
	if err == api.ErrForm {
		return "", err
	}
	return strings.Join(printed, " | ") + " ; " + words[err] + " " + strconv.Itoa(steps), api.OK
}

// eval returns the value of a formula, in which the names have the values of the cells.
func (d *desk) eval(f formula) (num.N, api.Errno) {
	var cells []prog.Name
	for _, name := range f.names {
		x, err := d.sheet.Value(name)
		cells = append(cells, prog.Name{Name: name, Value: x, Err: err})
	}
	return prog.Eval(f.text, cells)
}

// textOf returns the text of a number, or the error that came in place of it.
func textOf(x num.N, err api.Errno) (string, api.Errno) {
	if err != api.OK {
		return "", err
	}
	return prog.Print(x)
}
