package prog_test

import (
	"fmt"
	"slices"
	"strings"
	"testing"

	"sandreckoner/api"
	"sandreckoner/prog"
)

// P3.2: what is a formula, and what is not.
func TestWellFormed(t *testing.T) {
	for _, text := range []string{
		"0", "7", "10", "999999999999999999", "a", "abcdefgh", "lenx", "xlen", "printer", "iff", " 1", "1 ", "\t1\n", "1+2", "1 + 2", "1\n+\t2",
		"2^3", "2^ 3", "2^\n3", "2^2^2", "2^-3", "-2^3", "--1", "---1", "- - 1", "2^(3)", "2^a", "2", "22", "20", "122", "2*2^2", "2+2", "a-2^2", "2-2",
		"(1)", "((1))", "( 1 )", "-(1)", "2^(1)", "len(1)", "len ( 1 )", "low(1)", "abs(1)", "tower(1)", "rem(1,2)", "bit(1, 2)", "min(1 ,2)", "max( 1,2 )", "rem((1), (2))", "rem(rem(1, 2), 3)",
		"1<<2", "1 << 2", "1>>2", "1 >> -2", "1*-2", "1--2", "1---2", "1+-2", "a<<b>>c*d", "1 - 2 - 3 + 4", "2^2*2^2", "1*2^-a",
	} {
		formed(t, text, true)
	}
	for _, text := range []string{
		"", " ", "\n", "01", "00", "007", "-01", "1000000000000000000", "1 000", "1.5", "1e3", "0x1", "1_000",
		"A", "aB", "Ab", "abcdefghi", "print", "repeat", "if", "else", "rem", "bit", "len", "low", "abs", "min", "max", "tower", "a_b", "a1", "2a", "a 1", "a b", "len 1", "A(1)", "a(1)", "print(1)", "Len(1)",
		"12^3", "02^3", "22^3", "2 ^3", "2\n^3", "3^2", "(2)^3", "a^2", "a2^3", "1 2^3", "2^", "2^^3", "^", "2^*3", "2^+3", "2^)", "-", "1-", "1+", "+1", "1 + + 2", "*1", "1*", "1**2", "1<<", "<<1", "1 < 2", "1 < < 2", "1 > > 2", "1<<<2", "1>>>2", "1<=2", "1==2", "1!=2", "1=2", "1 <<= 2", "a = 1", "a = 1;", "1;", "{1}", "1 % 2", "1 / 2", "!1",
		"(", ")", "()", "(1", "1)", "((1)", "(1))", ")1(", "(1)(2)", "(1)2", "2(1)", "(1) a", "1,2", "(1,2)", "(,)", ",",
		"len()", "len(1", "len 1)", "len(1,2)", "len(1,)", "len(,1)", "rem()", "rem(1)", "rem(1,2,3)", "rem(1 2)", "rem(1,,2)", "rem(,)", "min(1)", "max(1, 2, 3)", "tower()", "tower(1, 2)", "bit(1)", "abs(1, 2)", "low()", "low(low)",
		"1\r", "\r1", "1\v", "1\f", "1\x00", "\x00", "1\u00a0", "é", "\xff", "1 + é", "#", "1 # 2", "'1'", "\"1\"", "1\\", "[1]", "a.b", "a:b", "1?2", "~1", "1&2", "1|2", "@", "$a", "`",
	} {
		formed(t, text, false)
	}
}

// P3.2: what the parts of random texts come to.
func TestWellFormedOfChangedTexts(t *testing.T) {
	s := newSampler(41)
	pieces := []string{"", " ", "0", "1", "2", "9", "a", "x", "A", "(", ")", ",", "+", "-", "*", "<", ">", "<<", ">>", "^", "2^", "12^", "len(", "rem(", "len", "if", "=", ";", "{", "\r", "\t", "é", "0000000000", "aaaaaaa"}
	counts := map[bool]int{}
	for range 6000 {
		text := s.source(s.tree(1 + s.Intn(4)))
		for range s.Intn(3) {
			at := s.Intn(len(text) + 1)
			end := min(len(text), at+s.Intn(3))
			text = text[:at] + pieces[s.Intn(len(pieces))] + text[end:]
		}
		if len(text) > 1000 {
			continue
		}
		formed(t, text, isWellFormed(text))
		counts[isWellFormed(text)]++
	}
	if counts[true] < 500 || counts[false] < 500 {
		t.Errorf("%v", counts)
	}
}

// P3.2: a formula has at most MaxSource bytes.
func TestLengthOfFormulas(t *testing.T) {
	for _, x := range []struct{ begin, fill, end string }{{"1", " ", ""}, {"", "\n", "1"}, {"1+", "\t", "2"}, {"1+ ", "-", "2"}} {
		count := api.MaxSource - len(x.begin) - len(x.end)
		if x.fill != "-" {
			formed(t, x.begin+strings.Repeat(x.fill, count)+x.end, true)
		}
		formed(t, x.begin+strings.Repeat(x.fill, count+1)+x.end, false)
	}
}

// P3.2: the plain text has at most MaxSource bytes, too, whatever names and errors there are.
func TestLengthOfPlainTexts(t *testing.T) {
	for _, x := range []struct {
		text string
		want int
	}{
		{"100" + strings.Repeat("+1", 998) + "+10", 4000},
		{"100" + strings.Repeat("+1", 998) + "+100", 4001},
		{"low(0)" + strings.Repeat("<<1", 797) + "+x*12", 4000},
		{"low(0)" + strings.Repeat("<<1", 797) + "+x*123", 4001},
		{"((1))" + strings.Repeat("\n-\t(1)", 660), 1 + 4*660},
		{strings.Repeat("rem(a,b)+", 300) + "1", 12*300 + 1},
		{strings.Repeat("rem(a,b)+", 333) + "rem(1)", 4002},
	} {
		if x.want > api.MaxSource {
			formed(t, x.text, false)
			continue
		}
		if text := good(prog.Plain(x.text))(t); len(text) != x.want {
			t.Errorf("%d bytes, not %d", len(text), x.want)
		}
		formed(t, x.text, true)
	}
}

// nested returns a formula with so many levels inside one another, of four kinds in turn from one of them on.
func nested(levels, from int) string {
	begin := []string{"(", "-", "len(", "2^"}
	end := []string{")", "", ")", ""}
	text := "x"
	for i := range levels {
		kind := (i + from) % len(begin)
		text = begin[kind] + text + end[kind]
	}
	return text
}

// P3.2: parentheses, calls, minus signs and "2^" are levels, of which at most MaxNest are inside one another.
func TestLevelsOfFormulas(t *testing.T) {
	const most = api.MaxNest
	for _, x := range [][2]string{{"(", ")"}, {"-", ""}, {"2^", ""}, {"abs(", ")"}, {"min(1,", ")"}, {"max(", ",1)"}} {
		text := func(levels int) string {
			return strings.Repeat(x[0], levels) + "x" + strings.Repeat(x[1], levels)
		}
		formed(t, text(most), true)
		formed(t, text(most+1), false)
		formed(t, text(most)+" + "+text(100), true) // beside one another
		formed(t, text(100)+" * "+text(most+1), false)
		formed(t, "min("+text(most-1)+", "+text(100)+")", true)
		formed(t, "min("+text(100)+", "+text(most)+")", false)
	}
	for from := range 4 {
		formed(t, nested(most, from), true)
		formed(t, nested(most+1, from), false)
		formed(t, nested(most-1, from)+" - (1 + -2^2^2 << len(2))", true)
	}
	formed(t, "1"+strings.Repeat(" - -1", 500), true)
	formed(t, strings.Repeat("(1)+", 600)+"1", true)
}

// P3.4: the document's example, and each place where a node can stand.
func TestPlain(t *testing.T) {
	for text, want := range map[string]string{
		"((a)+(b-c))*2^(2^(x))<<(1+2)": "(a + (b - c)) * 2^2^x << (1 + 2)",
		" 7\n":                         "7", "( ( a ) )": "a", "a+b": "a + b", "a\n-\tb": "a - b", "a*b": "a * b", "a<<b": "a << b", "a>>b": "a >> b", "- a": "-a", "2^ a": "2^a",
		"(a+b)+c": "a + b + c", "a+(b+c)": "a + (b + c)", "a-(b-c)": "a - (b - c)", "a+(b-c)": "a + (b - c)", "(a-b)-c": "a - b - c",
		"(a*b)*c": "a * b * c", "a*(b*c)": "a * (b * c)", "a<<(b>>c)": "a << (b >> c)", "(a<<b)>>c": "a << b >> c", "a>>(b*c)": "a >> (b * c)",
		"(a*b)+c": "a * b + c", "a+(b*c)": "a + b * c", "a-(b<<c)": "a - b << c", "(a+b)*c": "(a + b) * c", "a*(b+c)": "a * (b + c)", "(a-b)<<(c-d)": "(a - b) << (c - d)",
		"-(a+b)": "-(a + b)", "-(a*b)": "-(a * b)", "-(-a)": "--a", "-(2^a)": "-2^a", "-((a))": "-a", "(-a)*b": "-a * b", "-a*b": "-a * b", "a*(-b)": "a * -b", "a-(-b)": "a - -b", "(-a)+b": "-a + b",
		"2^(a+b)": "2^(a + b)", "2^(a<<b)": "2^(a << b)", "2^(-a)": "2^-a", "2^(2^a)": "2^2^a", "(2^a)*b": "2^a * b", "a*(2^b)": "a * 2^b", "2^(2)": "2^2", "2^(len(a))": "2^len(a)", "-(len(a))": "-len(a)",
		"rem(a,b)": "rem(a, b)", "rem ( ( a+b ) , ( a*b ) )": "rem(a + b, a * b)", "min((min(1,2)),(-3))": "min(min(1, 2), -3)", "tower((((4))))": "tower(4)", "(len(a))*b": "len(a) * b", "abs(a)+abs(b)": "abs(a) + abs(b)",
	} {
		if plain, err := prog.Plain(text); err != api.OK || plain != want {
			t.Errorf("%q: %q, error %d, not %q", text, plain, err, want)
		}
		if plain, err := prog.Plain(want); err != api.OK || plain != want {
			t.Errorf("%q: %q, error %d", want, plain, err)
		}
	}
}

// P3.4: all texts of a formula have the same plain text, which is a text of it, and the same names.
func TestPlainAndNamesOfRandomFormulas(t *testing.T) {
	s := newSampler(42)
	for range 2000 {
		f := s.tree(1 + s.Intn(5))
		text, want := s.source(f), f.plain()
		if len(text) > api.MaxSource || len(want) > api.MaxSource {
			continue
		}
		for _, x := range []string{text, want} {
			if plain, err := prog.Plain(x); err != api.OK || plain != want {
				t.Fatalf("%q: %q, error %d, not %q", x, plain, err, want)
			}
			if names, err := prog.Names(x); err != api.OK || !slices.Equal(names, f.names()) {
				t.Fatalf("%q: %v, error %d, not %v", x, names, err, f.names())
			}
		}
		checkNeeded(t, want)
	}
}

// checkNeeded checks that the tree of a plain text is another one without any of its parentheses.
func checkNeeded(t *testing.T, plain string) {
	t.Helper()
	var open []int
	for i, c := range plain {
		if c == '(' {
			open = append(open, i)
		}
		if c != ')' {
			continue
		}
		at := open[len(open)-1]
		open = open[:len(open)-1]
		if at > 0 && plain[at-1] >= 'a' { // the parentheses of a call
			continue
		}
		less := plain[:at] + plain[at+1:i] + plain[i+1:]
		if again := good(prog.Plain(less))(t); again == plain {
			t.Fatalf("%q needs no parentheses at %d", plain, at)
		}
	}
}

// P3.4: names in the order of strings, each once; functions are none.
func TestNames(t *testing.T) {
	for text, want := range map[string]string{
		"1":                                 "",
		"len(2^3)":                          "",
		"a":                                 "a",
		"x + b * a - b + rem(a, c)":         "a b c x",
		"z + y + x":                         "x y z",
		"ab + a + b + aa":                   "a aa ab b",
		"-2^x << -(x)":                      "x",
		"min(lens, max(lo, tower(towers)))": "lens lo towers",
		"low(0) + x":                        "x",
	} {
		names, err := prog.Names(text)
		if err != api.OK || fmt.Sprint(names) != "["+want+"]" {
			t.Errorf("%q: %v, error %d, not %s", text, names, err, want)
		}
	}
}
