package prog_test

import (
	"bytes"
	"math/big"
	"math/rand"
	"regexp"
	"slices"
	"strings"
	"testing"

	"sandreckoner/api"
	"sandreckoner/num"
	"sandreckoner/prog"
	"sandreckoner/rest"
)

// This file makes the numbers and texts of the tests, and tells in other ways what the package tells: formulas are calculated with whole numbers that are written out, and recognized by putting their parts together with regular expressions.

// good returns the result of a call that has to succeed.
func good[T any](x T, err api.Errno) func(t *testing.T) T {
	return func(t *testing.T) T {
		t.Helper()
		if err != api.OK {
			t.Fatalf("error %d", err)
		}
		return x
	}
}

// eval returns the value of a formula that has to have one.
func eval(t *testing.T, formula string, names ...prog.Name) num.N {
	t.Helper()
	x, err := prog.Eval(formula, names)
	if err != api.OK {
		t.Fatalf("%q: error %d", formula, err)
	}
	return x
}

// same checks that two numbers are one.
func same(t *testing.T, what string, x, want num.N) {
	t.Helper()
	if x.Cmp(want) != 0 || !bytes.Equal(x.Bytes(), want.Bytes()) {
		t.Errorf("%s: %v, not %v", what, x.Bytes(), want.Bytes())
	}
}

// fails checks that Eval ends with an error, and with the zero value.
func fails(t *testing.T, formula string, want api.Errno, names ...prog.Name) {
	t.Helper()
	x, err := prog.Eval(formula, names)
	if err != want || x != (num.N{}) {
		t.Errorf("%q: error %d and the bytes %v, not error %d and 0", formula, err, x.Bytes(), want)
	}
}

// formed checks whether Eval, Names and Plain take a text for a formula.
func formed(t *testing.T, text string, want bool) {
	t.Helper()
	x, err := prog.Eval(text, nil)
	names, errNames := prog.Names(text)
	plain, errPlain := prog.Plain(text)
	if want {
		if err == api.ErrForm || errNames != api.OK || errPlain != api.OK || plain == "" {
			t.Errorf("%q: errors %d, %d, %d", text, err, errNames, errPlain)
		}
		return
	}
	if err != api.ErrForm || errNames != api.ErrForm || errPlain != api.ErrForm {
		t.Errorf("%q: errors %d, %d, %d, not ErrForm", text, err, errNames, errPlain)
	}
	if x != (num.N{}) || len(names) > 0 || plain != "" {
		t.Errorf("%q: results beside ErrForm: %v, %q, %q", text, x.Bytes(), names, plain)
	}
}

// power returns 2 to the power of a number.
func power(t *testing.T, e num.N) num.N {
	t.Helper()
	return good(num.Of(1).Shift(e))(t)
}

// towerOf returns 2 to the power of 2 to the power of .. to the power of a number.
func towerOf(t *testing.T, levels int, top num.N) num.N {
	t.Helper()
	for range levels {
		top = power(t, top)
	}
	return top
}

// plus returns x + n.
func plus(t *testing.T, x num.N, n int64) num.N {
	t.Helper()
	return good(x.Add(num.Of(n)))(t)
}

// spread returns the sum of so many powers of two, whose exponents are every second number from the one that is given on.
func spread(t *testing.T, terms int, from int64) num.N {
	t.Helper()
	var list []num.Term
	for i := range int64(terms) {
		list = append(list, num.Term{Exp: num.Of(from + 2*i)})
	}
	return good(num.Sum(list))(t)
}

// fromBig returns the number that is written out.
func fromBig(t *testing.T, n *big.Int) num.N {
	t.Helper()
	var terms []num.Term
	size := new(big.Int).Abs(n)
	for e := range size.BitLen() {
		if size.Bit(e) == 1 {
			terms = append(terms, num.Term{Minus: n.Sign() < 0, Exp: num.Of(int64(e))})
		}
	}
	return good(num.Sum(terms))(t)
}

// towers makes numbers one from another, most of them too great to be written out.
func towers(t *testing.T, seed int64, count int) []num.N {
	t.Helper()
	r := rand.New(rand.NewSource(seed))
	numbers := []num.N{num.Of(0), num.Of(1), num.Of(-3), num.Of(1000), power(t, num.Of(100)), power(t, power(t, num.Of(60)))}
	for len(numbers) < count {
		x, y := numbers[r.Intn(len(numbers))], numbers[r.Intn(len(numbers))]
		z, err := mixed(r.Intn(5), x, y)
		_, small := z.Int()
		if err != api.OK || small && r.Intn(8) > 0 || z.Weight() > 60 || z.Height() > 15 || len(z.Terms()) > 12 {
			continue
		}
		numbers = append(numbers, z, z.Neg())
	}
	return numbers
}

// mixed makes a number from two.
func mixed(way int, x, y num.N) (num.N, api.Errno) {
	switch way {
	case 0:
		return x.Add(y)
	case 1:
		return x.Mul(y)
	case 2:
		return x.Shift(y)
	case 3:
		return num.Of(1).Shift(x)
	}
	return x.Sub(num.Of(int64(y.Weight())))
}

// isWellFormed reports whether a text is a formula, without counting bytes and levels.
func isWellFormed(text string) bool {
	if regexp.MustCompile(`[^0-9a-z \t\n+*<>(),^-]`).MatchString(text) {
		return false
	}
	power := regexp.MustCompile(`(^|[^0-9])2\^`)
	for power.MatchString(text) {
		text = power.ReplaceAllString(text, "$1 P ")
	}
	for _, digits := range regexp.MustCompile(`[0-9]+`).FindAllString(text, -1) {
		if len(digits) > 18 || digits[0] == '0' && digits != "0" {
			return false
		}
	}
	for _, word := range regexp.MustCompile(`[a-z]+`).FindAllString(text, -1) {
		if len(word) > 8 || slices.Contains([]string{"print", "repeat", "if", "else"}, word) {
			return false
		}
	}
	for _, x := range [][2]string{
		{`\b(len|low|abs|tower)\b`, "G"},
		{`\b(rem|bit|min|max)\b`, "H"},
		{`[0-9]+`, " N "},
		{`[a-z]+`, " N "},
		{`<<|>>`, "*"},
		{`[ \t\n]+`, ""},
	} {
		text = regexp.MustCompile(x[0]).ReplaceAllString(text, x[1])
	}
	const sum = `[-P]*N(?:[-+*][-P]*N)*`
	inner := regexp.MustCompile(`G\(` + sum + `\)|H\(` + sum + `,` + sum + `\)`)
	braced := regexp.MustCompile(`(^|[^GH])\(` + sum + `\)`)
	for before := ""; before != text; {
		before = text
		text = inner.ReplaceAllString(text, "N")
		text = braced.ReplaceAllString(text, "${1}N")
	}
	return regexp.MustCompile(`^` + sum + `$`).MatchString(text)
}

// tree is a formula: a mark or function with its operands, or a number, or a name, without any.
type tree struct {
	word string
	kids []*tree
}

// kind tells what a tree is: "sum", "product", "sign" or "part".
func (f *tree) kind() string {
	switch {
	case len(f.kids) == 2 && (f.word == "+" || f.word == "-"):
		return "sum"
	case len(f.kids) == 2 && strings.Contains("* << >>", f.word):
		return "product"
	case len(f.kids) == 1 && (f.word == "-" || f.word == "2^"):
		return "sign"
	}
	return "part"
}

// braced reports whether the operand at a place needs parentheses, in the words of the document.
func (f *tree) braced(place int) bool {
	operand := f.kids[place].kind()
	switch f.kind() {
	case "sum":
		return operand == "sum" && place == 1
	case "product":
		return operand == "sum" || operand == "product" && place == 1
	case "sign":
		return operand == "sum" || operand == "product"
	}
	return false
}

// plain returns the plain text.
func (f *tree) plain() string {
	return f.text(func() string { return "" }, func() bool { return false }, true)
}

// text returns a text of the tree: with space() wherever a space may stand, with more parentheses where more() says so, and, if plain is set, with the spaces of a plain text.
func (f *tree) text(space func() string, more func() bool, plain bool) string {
	var kids []string
	for i, kid := range f.kids {
		text := kid.text(space, more, plain)
		if f.braced(i) {
			text = "(" + space() + text + space() + ")"
		}
		for more() {
			text = "(" + space() + text + space() + ")"
		}
		kids = append(kids, text)
	}
	between, comma := space()+f.word+space(), space()+","+space()
	if plain {
		between, comma = " "+f.word+" ", ", "
	}
	switch f.kind() {
	case "sum", "product":
		return kids[0] + between + kids[1]
	case "sign":
		return f.word + space() + kids[0]
	}
	if len(kids) == 0 {
		return f.word
	}
	return f.word + space() + "(" + space() + strings.Join(kids, comma) + space() + ")"
}

// names returns the names of the tree, each once, in order.
func (f *tree) names() []string {
	var list []string
	if len(f.kids) == 0 && f.word[0] >= 'a' {
		list = append(list, f.word)
	}
	for _, kid := range f.kids {
		list = append(list, kid.names()...)
	}
	slices.Sort(list)
	return slices.Compact(list)
}

// sampler makes formulas.
type sampler struct {
	*rand.Rand
}

func newSampler(seed int64) sampler {
	return sampler{rand.New(rand.NewSource(seed))}
}

// space returns what may stand between parts.
func (s sampler) space() string {
	return []string{"", "", " ", "\t", "\n", " \n "}[s.Intn(6)]
}

// more decides whether parentheses are added.
func (s sampler) more() bool {
	return s.Intn(5) == 0
}

// tree makes a tree of so many levels, at most.
func (s sampler) tree(levels int) *tree {
	pick := func(words string) string {
		list := strings.Fields(words)
		return list[s.Intn(len(list))]
	}
	if levels == 0 || s.Intn(6) == 0 {
		return &tree{word: pick("0 1 2 3 4 5 7 12 22 100 999999999999999999 a b x y abcdefgh lens bad")}
	}
	kids := []*tree{s.tree(levels - 1)}
	switch s.Intn(6) {
	case 0:
		return &tree{pick("- 2^"), kids}
	case 1:
		return &tree{pick("len low abs tower"), kids}
	}
	kids = append(kids, s.tree(levels-1))
	return &tree{pick("+ - * << >> rem bit min max + - *"), kids}
}

// source returns one of the many texts of a tree.
func (s sampler) source(f *tree) string {
	text := s.space() + f.text(s.space, s.more, false) + s.space()
	if s.more() {
		text = " (" + text + ")\n"
	}
	return text
}

// most is the number of digits that the model writes out; numbers of fewer digits than that are allowed.
const most = 500

// model calculates formulas.
type model struct {
	values map[string]*big.Int
	errs   map[string]api.Errno
}

// value returns the value, or the error, of a tree, and whether all numbers can be written out.
func (m model) value(f *tree) (*big.Int, api.Errno, bool) {
	var kids []*big.Int
	for _, kid := range f.kids {
		x, err, ok := m.value(kid)
		if err != api.OK || !ok {
			return nil, err, ok
		}
		kids = append(kids, x)
	}
	x, err, ok := m.apply(f.word, kids)
	return x, err, ok && (x == nil || x.BitLen() < most)
}

func (m model) apply(word string, kids []*big.Int) (*big.Int, api.Errno, bool) {
	switch len(kids) {
	case 0:
		if n, ok := new(big.Int).SetString(word, 10); ok {
			return n, api.OK, true
		}
		if m.errs[word] != api.OK {
			return nil, m.errs[word], true
		}
		if n, ok := m.values[word]; ok {
			return n, api.OK, true
		}
		return nil, api.ErrNone, true
	case 1:
		return applyOne(word, kids[0])
	}
	return applyTwo(word, kids[0], kids[1])
}

func applyOne(word string, x *big.Int) (*big.Int, api.Errno, bool) {
	switch word {
	case "-":
		return new(big.Int).Neg(x), api.OK, true
	case "2^":
		return applyTwo("<<", big.NewInt(1), x)
	case "len":
		return big.NewInt(int64(x.BitLen())), api.OK, true
	case "low":
		if x.Sign() == 0 {
			return nil, api.ErrNone, true
		}
		return big.NewInt(int64(x.TrailingZeroBits())), api.OK, true
	case "abs":
		return new(big.Int).Abs(x), api.OK, true
	}
	if x.Sign() < 0 || x.Cmp(big.NewInt(api.MaxHeight)) > 0 {
		return nil, api.ErrArg, true
	}
	if x.Cmp(big.NewInt(4)) > 0 {
		return nil, api.OK, false
	}
	return big.NewInt([]int64{1, 2, 4, 16, 65536}[x.Int64()]), api.OK, true
}

func applyTwo(word string, x, y *big.Int) (*big.Int, api.Errno, bool) {
	z := new(big.Int)
	switch word {
	case "+":
		return z.Add(x, y), api.OK, true
	case "-":
		return z.Sub(x, y), api.OK, true
	case "*":
		return z.Mul(x, y), api.OK, true
	case "<<":
		return shift(x, y)
	case ">>", "bit":
		if y.Sign() < 0 {
			return nil, api.ErrArg, true
		}
		if !y.IsInt64() || y.Int64() > most {
			y = big.NewInt(most)
		}
		z.Rsh(x, uint(y.Int64()))
		if word == "bit" {
			z.And(z, big.NewInt(1))
		}
		return z, api.OK, true
	case "rem":
		if y.Sign() <= 0 || y.Cmp(big.NewInt(api.MaxMod)) > 0 {
			return nil, api.ErrArg, true
		}
		return z.Mod(x, y), api.OK, true
	}
	if (word == "min") == (x.Cmp(y) < 0) {
		return x, api.OK, true
	}
	return y, api.OK, true
}

// shift returns x * 2^y.
func shift(x, y *big.Int) (*big.Int, api.Errno, bool) {
	switch {
	case x.Sign() == 0:
		return x, api.OK, true
	case y.Sign() < 0:
		if !y.IsInt64() || int64(x.TrailingZeroBits()) < -y.Int64() {
			return nil, api.ErrRange, true
		}
		return new(big.Int).Rsh(x, uint(-y.Int64())), api.OK, true
	case !y.IsInt64() || y.Int64() > most:
		return nil, api.OK, false
	}
	return new(big.Int).Lsh(x, uint(y.Int64())), api.OK, true
}

// rem returns a remainder that there has to be.
func rem(t *testing.T, x num.N, m int64) num.N {
	t.Helper()
	return num.Of(good(rest.Rem(x, m))(t))
}
