package desk_test

import (
	"fmt"
	"math/rand"
	"regexp"
	"slices"
	"strconv"
	"strings"
	"testing"

	"sandreckoner/api"
	"sandreckoner/baum"
	"sandreckoner/desk"
	"sandreckoner/higman"
	"sandreckoner/num"
	"sandreckoner/prog"
	"sandreckoner/rest"
	"sandreckoner/sheet"
	"sandreckoner/turn"
)

// This file tells in the words of the document what a script is answered with: lines are taken apart by regular expressions, and a model keeps the sheets whole that were there before its changes, as images, from which they are loaded.

// model is a desk.
type model struct {
	sheet   *sheet.Sheet
	earlier [][]byte // the images to which undo leads, the nearest one last
	later   [][]byte // the images to which redo leads, the nearest one last
}

// wordOf returns the word of an error.
func wordOf(err api.Errno) string {
	return strings.Fields("ok arg bad none range full ring steps")[err]
}

var (
	spaces      = regexp.MustCompile(`^ +| +$`)
	firstWord   = regexp.MustCompile(`^[^ ]*`)
	firstSpaces = regexp.MustCompile(`^ +`)
	nameForm    = regexp.MustCompile(`^[a-z]{1,8}$`)
)

// lineOf is what a line is, for each command.
var lineOf = map[string]*regexp.Regexp{
	"set":     regexp.MustCompile(`^ ([^= ]+) *= *([^ ].*)$`),
	"unset":   regexp.MustCompile(`^ ([^ ]+)$`),
	"show":    regexp.MustCompile(`^ ([^ ]+)$`),
	"form":    regexp.MustCompile(`^ ([^ ]+)$`),
	"renewed": regexp.MustCompile(`^$`),
	"value":   regexp.MustCompile(`^ ([^ ].*)$`),
	"cmp":     regexp.MustCompile(`^ ([^;]+);([^;]+)$`),
	"last":    regexp.MustCompile(`^ (\d{1,9}) +([^ ].*)$`),
	"lead":    regexp.MustCompile(`^ (\d{1,9}) +([^ ].*)$`),
	"recur":   regexp.MustCompile(`^ (\d{1,9}) +([^;]+);((?: *-?\d{1,9}(?: +-?\d{1,9})*)?) *;((?: *-?\d{1,9}(?: +-?\d{1,9})*)?)$`),
	"baum":    regexp.MustCompile(`^ ([abAB]{1,400}|\.)$`),
	"trace":   regexp.MustCompile(`^ ([abAB]{1,400}|\.)$`),
	"higman":  regexp.MustCompile(`^ ([abcdABCD]{1,400}|\.)$`),
	"run":     regexp.MustCompile(`^ ?(.*)$`),
	"undo":    regexp.MustCompile(`^$`),
	"redo":    regexp.MustCompile(`^$`),
	"look":    regexp.MustCompile(`^$`),
}

// formulasOf are the places of the formulas in what a line is.
var formulasOf = map[string][]int{"set": {2}, "value": {1}, "cmp": {1, 2}, "last": {2}, "lead": {2}, "recur": {2}}

// parts returns the command of a line and what follows it, if the line is well formed.
func parts(line string) (string, []string, bool) {
	command := firstWord.FindString(line)
	behind := firstSpaces.ReplaceAllString(line[len(command):], " ")
	form, ok := lineOf[command]
	if !ok || !form.MatchString(behind) {
		return "", nil, false
	}
	p := form.FindStringSubmatch(behind)
	for _, at := range formulasOf[command] {
		if _, err := prog.Eval(p[at], nil); err == api.ErrForm {
			return "", nil, false
		}
	}
	if slices.Contains([]string{"set", "unset", "show", "form"}, command) && !isName(p[1]) {
		return "", nil, false
	}
	if _, err, _ := prog.Run(p[len(p)-1]); command == "run" && err == api.ErrForm {
		return "", nil, false
	}
	return command, p, true
}

// isName reports whether a text is a name.
func isName(text string) bool {
	return nameForm.MatchString(text) && !slices.Contains(strings.Fields("rem bit len low abs min max tower print repeat if else"), text)
}

// eval returns the value of a formula.
func (m *model) eval(formula string) (num.N, api.Errno) {
	var names []prog.Name
	for _, name := range m.sheet.Names() {
		x, err := m.sheet.Value(name)
		names = append(names, prog.Name{Name: name, Value: x, Err: err})
	}
	return prog.Eval(formula, names)
}

// change makes a change, which can be taken back if it is not refused.
func (m *model) change(do func() api.Errno) string {
	image := m.sheet.Image()
	err := do()
	if err == api.OK {
		m.earlier = append(m.earlier, image)
		m.earlier = m.earlier[max(0, len(m.earlier)-api.MaxUndo):]
		m.later = nil
	}
	return wordOf(err)
}

// move goes to the next image of a list, and leaves the one that is here in another one.
func (m *model) move(from, to *[][]byte) string {
	if len(*from) == 0 {
		return "none"
	}
	*to = append(*to, m.sheet.Image())
	s, err := sheet.Load((*from)[len(*from)-1])
	if err != api.OK {
		return "no sheet"
	}
	m.sheet, *from = s, (*from)[:len(*from)-1]
	return "ok"
}

// answer returns the answer of a line.
func (m *model) answer(line string) string {
	line = spaces.ReplaceAllString(line, "")
	if line == "" {
		return ""
	}
	command, p, ok := parts(line)
	if !ok {
		return "bad"
	}
	switch command {
	case "set":
		return m.change(func() api.Errno { return m.sheet.Set(p[1], p[2]) })
	case "unset":
		return m.change(func() api.Errno { return m.sheet.Unset(p[1]) })
	case "undo":
		return m.move(&m.earlier, &m.later)
	case "redo":
		return m.move(&m.later, &m.earlier)
	case "show":
		return m.show(m.sheet.Value(p[1]))
	case "form":
		formula, err := m.sheet.Formula(p[1])
		if err != api.OK {
			return wordOf(err)
		}
		return formula
	case "renewed":
		if len(m.sheet.Renewed()) == 0 {
			return "-"
		}
		return strings.Join(m.sheet.Renewed(), " ")
	case "look":
		return hashed(m.sheet.Image())
	case "baum", "trace", "higman":
		return group(command, strings.TrimPrefix(p[1], "."))
	case "run":
		printed, err, steps := prog.Run(p[1])
		return fmt.Sprintf("%s ; %s %d", strings.Join(printed, " | "), wordOf(err), steps)
	}
	return m.asked(command, p)
}

// show returns the text of a number.
func (m *model) show(x num.N, err api.Errno) string {
	text := ""
	if err == api.OK {
		text, err = prog.Print(x)
	}
	if err != api.OK {
		return wordOf(err)
	}
	return text
}

// group returns the answer of a line that asks for a word.
func group(command, word string) string {
	steps, left, end, err := baum.Trace(word)
	length, _ := higman.Length(word)
	unit, _ := higman.Unit(word)
	switch {
	case command == "higman" && unit:
		return "unit"
	case command == "higman":
		return fmt.Sprintf("length %d", length)
	case err != api.OK:
		return wordOf(err)
	case command == "trace":
		return fmt.Sprintf("%d %d", len(steps), left)
	case left == 0 && end == baum.E{}:
		return "unit"
	}
	return "not"
}

// asked returns the answer of a line that asks for values of formulas.
func (m *model) asked(command string, p []string) string {
	first := 2
	if command == "value" || command == "cmp" {
		first = 1
	}
	x, err := m.eval(p[first])
	if err != api.OK {
		return wordOf(err)
	}
	k, _ := strconv.Atoi(p[1])
	n := int64(0)
	switch command {
	case "value":
		return m.show(x, err)
	case "cmp":
		y, err := m.eval(p[2])
		if err != api.OK {
			return wordOf(err)
		}
		return map[int]string{-1: "less", 0: "same", 1: "greater"}[x.Cmp(y)]
	case "last":
		n, err = rest.Last(x, k)
	case "lead":
		n, err = rest.Lead(x, k)
	case "recur":
		f, wrong := turn.Recur(integers(p[3]), integers(p[4]), x, k)
		n, err = int64(f), wrong
	}
	if err != api.OK {
		return wordOf(err)
	}
	return fmt.Sprint(n)
}

// integers returns the numbers of a list.
func integers(list string) []int {
	var out []int
	for _, word := range strings.Fields(list) {
		n, _ := strconv.Atoi(word)
		out = append(out, n)
	}
	return out
}

// sampler makes random lines.
type sampler struct {
	*rand.Rand
}

func newSampler(seed int64) sampler {
	return sampler{rand.New(rand.NewSource(seed))}
}

// pick returns one of some words.
func (r sampler) pick(words string) string {
	list := strings.Fields(words)
	return list[r.Intn(len(list))]
}

// name returns a name, or seldom something else.
func (r sampler) name() string {
	if r.Intn(20) == 0 {
		return r.pick("A rem if abcdefgh abcdefghi 1 a. x")
	}
	return r.pick("a b c d e")
}

// formula returns a formula, or seldom something else.
func (r sampler) formula(depth int) string {
	if r.Intn(300) == 0 {
		return "tower(100)"
	}
	if depth == 0 {
		return r.pick("a a b b c d e x 0 1 2 5 100 2^2^100 2^-1 low(0) 1>>-1")
	}
	if r.Intn(30) == 0 {
		return r.pick("( ) 1+ rem(1) 01 A . = ; a;b")
	}
	return r.formula(depth-1) + r.pick("+ - * << >> +") + r.formula(r.Intn(depth))
}

// list returns a list of numbers.
func (r sampler) list() string {
	var list []string
	for range r.Intn(4) {
		list = append(list, r.pick("0 1 -1 7 -007 12 999999999 1 1 1 1 0000000001 x --1"))
	}
	return strings.Join(list, r.gap()+" ")
}

// gap returns a space or more, or none.
func (r sampler) gap() string {
	return strings.Repeat(" ", max(0, r.Intn(6)-3))
}

// letters returns a word.
func (r sampler) letters(letters string) string {
	word := ""
	for range r.Intn(8) {
		word += r.pick(letters)
	}
	return word
}

// line returns a line, most of the time one that is well formed.
func (r sampler) line() string {
	formula := r.formula(r.Intn(3))
	switch r.Intn(24) {
	case 0, 1, 2, 3, 4:
		return "set " + r.name() + r.gap() + "=" + r.gap() + formula
	case 5:
		return "set a = 2^100"
	case 6:
		return "unset " + r.name()
	case 7, 8, 9:
		return "undo"
	case 10:
		return "redo"
	case 11:
		return r.pick("show form") + " " + r.name()
	case 12, 13:
		return "renewed"
	case 14, 15:
		return "look"
	case 16:
		return "value " + formula
	case 17:
		return "cmp " + formula + r.gap() + ";" + r.gap() + r.formula(r.Intn(2))
	case 18, 19:
		return r.pick("last lead") + " " + r.pick("1 3 09 10 60 61 -1") + r.gap() + " " + formula
	case 20:
		return "recur " + r.pick("7 60 61 007 0") + r.gap() + " " + formula + r.gap() + ";" + r.gap() + r.list() + r.gap() + ";" + r.gap() + r.list()
	case 21:
		return r.pick("baum trace higman") + " " + r.letters("a A b B b B") + r.pick("aA . bB babABBA")
	case 22:
		return "higman " + r.letters("a A b B c C d D")
	}
	return "run a = 1; print " + formula + "; " + r.pick("print a; print } if b=2;")
}

// P8.1 to P8.3, T9: random scripts, of lines that are well formed for the most part.
func TestRandomScripts(t *testing.T) {
	count := map[string]int{}
	for seed := range int64(400) {
		r := newSampler(seed)
		var lines []string
		for range r.Intn(100) {
			line := r.gap() + r.line() + r.gap()
			if r.Intn(40) == 0 {
				at := r.Intn(len(line) + 1)
				line = line[:at] + r.pick("a = ; 1 . ( -") + line[at:]
			}
			lines = append(lines, line)
		}
		agree(t, lines, count)
	}
	for _, answer := range strings.Fields("ok arg bad none range full ring less same greater unit not - 0") {
		if count[answer] < 5 {
			t.Errorf("%d answers %s", count[answer], answer)
		}
	}
}

// P8.2, P8.3, T9: random scripts of changes that are taken back, and done again.
func TestRandomChanges(t *testing.T) {
	for seed := range int64(200) {
		r := newSampler(seed)
		var lines []string
		for len(lines) < 200 {
			switch r.Intn(4) {
			case 0:
				lines = append(lines, repeated("undo", r.Intn(r.Intn(70)+1))...)
			case 1:
				lines = append(lines, repeated("redo", r.Intn(r.Intn(70)+1))...)
			default:
				for range r.Intn(40) {
					lines = append(lines, r.pick("set set set unset")+" "+r.name()+" = "+r.formula(r.Intn(2)))
					if strings.HasPrefix(lines[len(lines)-1], "unset") {
						lines[len(lines)-1] = "unset " + r.name()
					}
				}
			}
			lines = append(lines, r.pick("look renewed"))
		}
		agree(t, lines, map[string]int{})
	}
}

// agree checks that a script is answered as by a model, and counts the answers.
func agree(t *testing.T, lines []string, count map[string]int) {
	t.Helper()
	for len(strings.Join(lines, "\n")) > api.MaxSource {
		lines = lines[:len(lines)-1]
	}
	if len(lines) == 0 {
		lines = []string{""}
	}
	m := model{sheet: sheet.New()}
	list := desk.Run(strings.Join(lines, "\n"))
	if len(list) != len(lines) {
		t.Fatalf("%q: %d answers", lines, len(list))
	}
	for i, line := range lines {
		want := m.answer(line)
		if list[i] != want {
			t.Fatalf("%q, line %d, %q: %q, not %q", lines[:i+1], i, line, list[i], want)
		}
		count[want]++
	}
}

// P8.1: lines of all pieces, in any order: they are well formed or not.
func TestRandomPieces(t *testing.T) {
	r := newSampler(1)
	commands := []string{"set", "unset", "show", "form", "value", "cmp", "last", "lead", "recur", "baum", "trace", "higman", "run", "undo", "look"}
	pieces := []string{" ", " ", " ", " ", "=", "=", ";", ";", ";", "a", "a", "b", "b", "1", "1", "7", "-", "-1", "+", "(", ")", ".", "\t", "\r", "A", "é", "\x00", "\xff", "print", "bB"}
	count := map[string]int{}
	for range 20000 {
		line := commands[r.Intn(len(commands))] + " "
		for range r.Intn(8) {
			line += pieces[r.Intn(len(pieces))] + r.gap()
		}
		agree(t, []string{"set b = 3", line, "look", "renewed"}, count)
	}
	if good := 20000 - count["bad"]; good < 500 || count["bad"] < 500 {
		t.Errorf("%d lines are well formed, %d are not", good, count["bad"])
	}
}
