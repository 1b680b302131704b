package prog

import (
	"slices"
	"strings"

	"sandreckoner/api"
)

// maxDigits is how many digits a number of a text has at most.
const maxDigits = 18

// The marks of all texts. A longer one stands ahead of those with which it begins.
var marks = [...]string{"<<", ">>", "<=", "==", "!=", "<", "=", "+", "-", "*", "(", ")", ",", ";", "{", "}"}

// reader reads a text part by part. It leaves with ErrForm where the text is not well formed.
type reader struct {
	left  []string // the parts that are not read yet
	level int      // in how many levels the next part is
}

// readerOf returns the reader of a text.
func readerOf(text string) *reader {
	if len(text) > api.MaxSource {
		panic(api.ErrForm)
	}
	return &reader{left: split(text)}
}

// split returns the parts of a text: runs of digits, words, and marks, of which "2^" is one.
func split(text string) []string {
	var parts []string
	for {
		text = strings.TrimLeft(text, " \t\n")
		if text == "" {
			return parts
		}
		length := first(text)
		parts = append(parts, text[:length])
		text = text[length:]
	}
}

// first returns the length of the first part of a text, which does not begin with a space.
func first(text string) int {
	if length := leading(text, isDigit); length > 0 {
		if text[:length] == "2" && strings.HasPrefix(text[length:], "^") {
			return len("2^")
		}
		return length
	}
	if length := leading(text, isLetter); length > 0 {
		return length
	}
	for _, mark := range marks {
		if strings.HasPrefix(text, mark) {
			return len(mark)
		}
	}
	panic(api.ErrForm)
}

// leading returns how many bytes of one kind a text begins with.
func leading(text string, kind func(c byte) bool) int {
	length := 0
	for length < len(text) && kind(text[length]) {
		length++
	}
	return length
}

// isDigit reports whether a byte is a decimal digit.
func isDigit(c byte) bool {
	return '0' <= c && c <= '9'
}

// isSmall reports whether a byte is a letter from a to z.
func isSmall(c byte) bool {
	return 'a' <= c && c <= 'z'
}

// isLetter reports whether a byte is a letter of a word.
func isLetter(c byte) bool {
	return isSmall(c) || 'A' <= c && c <= 'Z'
}

// isNumber reports whether a part is digits that may stand in a text.
func isNumber(part string) bool {
	return leading(part, isDigit) == len(part) && len(part) <= maxDigits && (part == "0" || part[0] != '0')
}

// isName reports whether a part is a name.
func isName(part string) bool {
	switch part {
	case "print", "repeat", "if", "else":
		return false
	}
	return leading(part, isSmall) == len(part) && len(part) <= api.MaxName && arity(part) == 0
}

// take reads the next part, whatever it is.
func (r *reader) take() string {
	if len(r.left) == 0 {
		panic(api.ErrForm)
	}
	part := r.left[0]
	r.left = r.left[1:]
	return part
}

// mark reads one of some marks, or returns "" if none of them comes next.
func (r *reader) mark(wanted ...string) string {
	if len(r.left) == 0 || !slices.Contains(wanted, r.left[0]) {
		return ""
	}
	return r.take()
}

// need reads one of some marks, which has to come next.
func (r *reader) need(wanted ...string) string {
	mark := r.mark(wanted...)
	if mark == "" {
		panic(api.ErrForm)
	}
	return mark
}

// name reads a name.
func (r *reader) name() string {
	part := r.take()
	if !isName(part) {
		panic(api.ErrForm)
	}
	return part
}

// end makes sure that nothing is left.
func (r *reader) end() {
	if len(r.left) > 0 {
		panic(api.ErrForm)
	}
}

// enter begins a level.
func (r *reader) enter() {
	if r.level == api.MaxNest {
		panic(api.ErrForm)
	}
	r.level++
}

// leave ends a level.
func (r *reader) leave() {
	r.level--
}
