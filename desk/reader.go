package desk

import (
	"slices"
	"strconv"
	"strings"

	"sandreckoner/api"
	"sandreckoner/prog"
)

// maxDigits is how many digits a decimal number of a line has at most.
const maxDigits = 9

// space is what stands between the parts of a line. Tabs do not, but formulas and programs may have them.
const space = " "

// reader reads a line, or a part of it. It leaves with ErrForm where that is not well formed.
type reader struct {
	left string // what is not read yet, without spaces at both ends
}

// readerOf returns the reader of a text.
func readerOf(text string) *reader {
	return &reader{strings.Trim(text, space)}
}

// need makes sure of what has to be so.
func (r *reader) need(ok bool) {
	if !ok {
		panic(api.ErrForm)
	}
}

// word reads up to the next space.
func (r *reader) word() string {
	word, left, _ := strings.Cut(r.left, space)
	r.left = strings.TrimLeft(left, space)
	return word
}

// upTo reads up to a mark, and returns the reader of what stands ahead of it.
func (r *reader) upTo(mark string) *reader {
	part, left, ok := strings.Cut(r.left, mark)
	r.need(ok)
	r.left = strings.TrimLeft(left, space)
	return readerOf(part)
}

// end makes sure that nothing is left.
func (r *reader) end() {
	r.need(r.left == "")
}

// name returns what is left, which is a name.
func (r *reader) name() string {
	names, err := prog.Names(r.left)
	r.need(err == api.OK && slices.Equal(names, []string{r.left}))
	return r.left
}

// formula is a formula that is well formed.
type formula struct {
	text  string
	names []string // in order
}

// formula returns what is left, which is a formula.
func (r *reader) formula() formula {
	names, err := prog.Names(r.left)
	r.need(err == api.OK)
	return formula{r.left, names}
}

// letters returns what is left, which is a word of a group: whether it is one tells the group.
func (r *reader) letters() string {
	r.need(r.left != "")
	if r.left == "." {
		return ""
	}
	return r.left
}

// number reads a number without a sign.
func (r *reader) number() int {
	return r.decimal(r.word())
}

// numbers reads numbers up to the end, each of which may have a minus sign.
func (r *reader) numbers() []int {
	var list []int
	for r.left != "" {
		digits, negative := strings.CutPrefix(r.word(), "-")
		n := r.decimal(digits)
		if negative {
			n = -n
		}
		list = append(list, n)
	}
	return list
}

// decimal returns the number of some digits.
func (r *reader) decimal(digits string) int {
	r.need(len(digits) <= maxDigits && strings.Trim(digits, "0123456789") == "")
	n, err := strconv.Atoi(digits)
	r.need(err == nil)
	return n
}
