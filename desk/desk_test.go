package desk_test

import (
	"fmt"
	"hash/fnv"
	"slices"
	"strings"
	"testing"

	"sandreckoner/api"
	"sandreckoner/desk"
	"sandreckoner/sheet"
)

// answered checks what the lines of a script are answered with: each is told as "line -> answer".
func answered(t *testing.T, lines ...string) {
	t.Helper()
	var script, want []string
	for _, line := range lines {
		at := strings.LastIndex(line, " -> ")
		script = append(script, line[:at])
		want = append(want, line[at+len(" -> "):])
	}
	list := desk.Run(strings.Join(script, "\n"))
	if len(list) != len(want) {
		t.Fatalf("%q: %d answers, not %d", script, len(list), len(want))
	}
	for i := range want {
		if list[i] != want[i] {
			t.Errorf("%.200q, line %d: %.200q, not %.200q", script[i], i, list[i], want[i])
		}
	}
}

// all checks that each of some lines has the same answer.
func all(t *testing.T, want string, lines ...string) {
	t.Helper()
	for _, line := range lines {
		answered(t, line+" -> "+want)
	}
}

// lookOf returns what look answers on a desk with some cells, each "name: formula".
func lookOf(t *testing.T, cells ...string) string {
	t.Helper()
	s := sheet.New()
	for _, cell := range cells {
		name, formula, _ := strings.Cut(cell, ": ")
		if err := s.Set(name, formula); err != api.OK {
			t.Fatalf("%s: error %d", cell, err)
		}
	}
	return hashed(s.Image())
}

// hashed returns the digits that tell some bytes.
func hashed(image []byte) string {
	h := fnv.New64a()
	h.Write(image)
	return fmt.Sprintf("%016x", h.Sum64())
}

// P8.1, P8.2: the document's examples.
func TestExamples(t *testing.T) {
	answered(t, "set a = 2^100 -> ok", "set b = 2^a + 1 -> ok", "renewed -> b", "show b -> 2^(2^100) + 2^0", "undo -> ok", "show b -> none")
	answered(t, "baum baBabABAA -> unit", "higman abABB -> unit", "cmp 2^(2^100) ; 2^(2^100) + 1 -> less")
	answered(t, "recur 7 2^(2^100) ; 1 1 ; 0 1 -> 0")
	answered(t, "run a = 1; repeat 5 { a = 2^a; print a; } -> 2 | 4 | 16 | 65536 | 2^65536 ; ok 17")
}

// P8.1: lines are what stands between newlines, and each has its answer.
func TestLines(t *testing.T) {
	for script, want := range map[string][]string{
		"":                    {""},
		"\n":                  {"", ""},
		" ":                   {""},
		"   \n \n":            {"", "", ""},
		"value 1":             {"1"},
		"value 1\n":           {"1", ""},
		"\nvalue 1":           {"", "1"},
		"value 1\n\nvalue 2":  {"1", "", "2"},
		"value 1\r\nvalue 2":  {"bad", "2"},
		"\t":                  {"bad"},
		"\r":                  {"bad"},
		"\x00":                {"bad"},
		"\u00a0":              {"bad"},
		"\xff\n\xffvalue 1":   {"bad", "bad"},
		"value 1;value 2":     {"bad"},
		"value 1 +\n2":        {"bad", "bad"},
		"set a = 1\nshow a":   {"ok", "1"},
		"show a\nset a = 1":   {"none", "ok"},
		"value 1\vvalue 2":    {"bad"},
		"value 1\u2028look":   {"bad"},
		"cmp 1 ; 1\nundo\n\n": {"same", "none", "", ""},
	} {
		if list := desk.Run(script); !slices.Equal(list, want) {
			t.Errorf("%q: %q, not %q", script, list, want)
		}
	}
}

// P8.1: a script has at most MaxSource bytes.
func TestLongScripts(t *testing.T) {
	for _, script := range []string{
		strings.Repeat("\n", api.MaxSource), strings.Repeat(" ", api.MaxSource),
		"value 1" + strings.Repeat("\n", api.MaxSource-7), "run " + strings.Repeat("\t", api.MaxSource-4),
	} {
		if list := desk.Run(script); len(script) != api.MaxSource || len(list) != strings.Count(script, "\n")+1 {
			t.Errorf("%d bytes: %d answers", len(script), len(list))
		}
		for _, more := range []string{"\n", " ", "\nvalue 1", script} {
			if list := desk.Run(script + more); len(list) != 0 {
				t.Errorf("%d bytes: %d answers", len(script)+len(more), len(list))
			}
		}
	}
	sum := "value 1" + strings.Repeat("+1", (api.MaxSource-7)/4)
	if list := desk.Run(sum + strings.Repeat(" ", api.MaxSource-len(sum))); !slices.Equal(list, []string{"999"}) {
		t.Errorf("%.100q", list)
	}
}

// P8.1: spaces, and nothing else, are taken off both ends of a line, and off what stands behind the command.
func TestSpaces(t *testing.T) {
	answered(t,
		"  set   a  =  2 + 3    -> ok", "set b=a -> ok", "set c= b -> ok", "set d =c -> ok",
		"   show    d     -> 5", "  renewed   -> d", "  form   a   -> 2 + 3", "  value   1  +  2   -> 3",
		"cmp 1;2 -> less", "cmp 1  ;  2 -> less", "cmp 1; 2 -> less", "cmp 1 ;2 -> less",
		"  last    2    345   -> 45", " lead   1   8 -> 1",
		"  recur   7    10  ;   1    1   ;   0     1   -> 6", "recur 7 10;1 1;0 1 -> 6", "recur 7 10 ;1 1; 0 1 -> 6",
		"  baum   bB   -> unit", "  trace   bB   -> 1 0", "  higman   .   -> unit", "  run   print  1 ;   -> 1 ; ok 1",
		"  undo   -> ok", "  redo   -> ok", "   unset   d   -> ok", "   look   -> "+lookOf(t, "a: 2 + 3", "b: a", "c: b"))
	// Formulas and programs may have tabs.
	answered(t,
		"value \t1\t+\t1\t -> 2", "set a =\t1\t -> ok", "show a -> 1", "form a -> 1", "cmp \t1\t;\t2\t -> less",
		"last 1 \t12\t -> 2", "recur 7 \t10\t; 1 1 ; 0 1 -> 6", "run \tprint\t1;\t -> 1 ; ok 1", "run \t ->  ; ok 0")
	all(t, "bad",
		"\tvalue 1", "value\t1", "set\ta = 1", "set \ta = 1", "set a\t= 1", "show a\t", "show \ta", "form \ta", "unset \ta",
		"renewed\t", "undo\t", "redo \t", "look \t", "last\t1 1", "last \t1 1", "last 1\t1", "cmp\t1 ; 1",
		"recur 7\t10 ; 1 1 ; 0 1", "recur \t7 10 ; 1 1 ; 0 1", "recur 7 10 ;\t1 1 ; 0 1", "recur 7 10 ; 1\t1 ; 0 1", "recur 7 10 ; 1 1 ; 0 1\t",
		"baum \tbB", "baum bB\t", "trace \t.", "higman .\t", "run\tprint 1;",
		"value 1\r", "value 1\v", "value 1\u00a0", "look\u00a0", "\u2003look", "undo\f")
}

// P8.1: a command is one of those of the table, and ends ahead of the next space.
func TestCommands(t *testing.T) {
	all(t, "bad",
		"shout", "shout 1", "Set a = 1", "SHOW a", "values 1", "valu 1", "value1", "value(1)", "value-1", "set=1", "seta = 1", "cmp1 ; 2",
		"run{}", "look; look", "undo;", "lookundo", "a = 1", "=", ";", ".", "-", "1", "ok", "bad", "renew", "compare 1 ; 1", "unit", "redo\x00")
	all(t, "bad", "renewed a", "renewed -", "undo 1", "undo undo", "redo 1", "redo .", "look x", "look ;", "look look", "undo =")
	all(t, "bad", "set", "unset", "show", "form", "value", "cmp", "last", "lead", "recur", "baum", "trace", "higman")
	answered(t, "renewed -> -", "undo -> none", "redo -> none", "run ->  ; ok 0", "look -> "+lookOf(t))
}

// P8.1: the names of cells.
func TestNames(t *testing.T) {
	for _, name := range []string{
		"", "A", "aB", "abcdefghi", "a1", "1", "a b", "a.", "(a)", "a+a", "-a", "2^a", "é", "a;", "a\x00", ".",
		"rem", "bit", "len", "low", "abs", "min", "max", "tower", "print", "repeat", "if", "else",
	} {
		all(t, "bad", "set "+name+" = 1", "unset "+name, "show "+name, "form "+name)
	}
	for _, name := range []string{"a", "z", "abcdefgh", "set", "unset", "show", "undo", "look", "ok", "bad", "mod", "unit", "ifs", "prints"} {
		answered(t,
			"show "+name+" -> none", "form "+name+" -> none", "unset "+name+" -> none", "set "+name+" = 1 -> ok", "renewed -> "+name,
			"show "+name+" -> 1", "form "+name+" -> 1", "value "+name+" -> 1", "unset "+name+" -> ok", "show "+name+" -> none")
	}
}

// P8.1: formulas, wherever they stand.
func TestFormulas(t *testing.T) {
	for _, f := range []string{
		"", "1 +", "+ 1", "01", "12^3", "2 ^3", "a b", "B", "abcdefghi", "(1", "1)", "rem", "rem(7)", "rem(1, 2, 3)", "len()", "print", "1 = 1", "1 == 1", "1 ;", "; 1",
		"1 ; 1 ; 1", ".", "é", "1234567890123456789",
		strings.Repeat("(", api.MaxNest+1) + "1" + strings.Repeat(")", api.MaxNest+1), strings.Repeat("-", api.MaxNest+1) + "1",
	} {
		all(t, "bad", "set a = "+f, "value "+f, "cmp "+f+" ; 1", "cmp 1 ; "+f, "last 1 "+f, "lead 1 "+f, "recur 7 "+f+" ; 1 ; 1")
	}
	deep := strings.Repeat("(", api.MaxNest) + "1" + strings.Repeat(")", api.MaxNest)
	answered(t, "set a = "+deep+" -> ok", "form a -> 1", "value "+deep+" -> 1", "cmp "+deep+" ; a -> same", "last 1 "+deep+" -> 1", "recur 7 "+deep+" ; 1 ; 3 -> 3")
	// The plain text of a sum has two spaces for each sign.
	long, longer := "1+10"+strings.Repeat("+1", 998), "1"+strings.Repeat("+1", 1000)
	answered(t, "value "+long+" -> 1009", "set a = "+long[:1000]+" -> ok")
	answered(t, "set a = "+long+" -> ok", "undo -> ok")
	all(t, "bad", "value "+longer, "set a = "+longer, "cmp 1 ; "+longer, "cmp "+longer+" ; 1", "last 1 "+longer, "recur 7 "+longer+" ; 1 ; 1")
}

// P8.1: what a set has ahead of its first "=" is the name, and what is behind it the formula.
func TestSetForms(t *testing.T) {
	all(t, "bad",
		"set a", "set a 1", "set = 1", "set =", "set a =", "set a = ", "set a = 1 = 2", "set a == 1", "set a = = 1", "set a b = 1", "set 1 = a", "set a ; 1", "set a: 1",
		"set a := 1", "set a + 1 = 2", "set a = b = c")
	answered(t, "set a = b -> ok", "set B = 1 -> bad", "set b = 1 + -> bad", "show a -> none", "renewed -> a", "undo -> ok", "undo -> none")
}

// P8.1, P8.2: formulas are evaluated with the values of the cells, of which one with an error counts as its error.
func TestValues(t *testing.T) {
	cells := []string{
		"set a = 5 -> ok", "set b = 2^2^a -> ok", "set wrong = 1 >> -1 -> ok", "set half = 2^-1 -> ok",
		"set none = gone + wrong -> ok", "set great = 2^2^100 -> ok", "set full = tower(100) -> ok",
	}
	answered(t, append(cells,
		"value a -> 5", "value a * b - a -> 21474836475", "value rem(great, 7) -> 2", "value great -> 2^(2^100)", "value max(a, 7) -> 7", "value -great + b -> -2^(2^100) + 2^32",
		"value gone -> none", "value wrong -> arg", "value none -> none", "value half -> range", "value full -> full", "value low(0) -> none", "value 1 << (0 - 1) -> range",
		"value rem(1, 0) -> arg", "value 2^full -> full",
		"value wrong + gone -> arg", "value gone + wrong -> none", "value half + wrong -> range", "value wrong * 0 -> arg", "value full + half -> full",
		"value 2^-1 + gone -> range", "value 1 - 1 - (gone - gone) -> none",
		"show a -> 5", "show b -> 4294967296", "show wrong -> arg", "show half -> range", "show none -> none", "show great -> 2^(2^100)", "show full -> full", "show gone -> none",
		"form a -> 5", "form b -> 2^2^a", "form wrong -> 1 >> -1", "form none -> gone + wrong", "form full -> tower(100)", "form gone -> none")...)
}

// spread returns a sum of powers of two whose exponents are so far apart.
func spread(count, distance int) string {
	terms := []string{"1"}
	for i := 1; i < count; i++ {
		terms = append(terms, fmt.Sprintf("2^%d", i*distance))
	}
	return strings.Join(terms, "+")
}

// P8.2: the texts of numbers, and those that Print refuses.
func TestTexts(t *testing.T) {
	answered(t,
		"value 0 -> 0", "value -7 -> -7", "value 999999999999999999 -> 999999999999999999", "value -999999999999999999 -> -999999999999999999",
		"value 2^60 - 1 -> 2^60 - 2^0", "value -2^60 -> -2^60", "value -2^100 + 3 -> -2^100 + 2^2 - 2^0", "value 2^2^2^60 -> 2^(2^(2^60))")
	answered(t,
		"set c = "+spread(17, 100)+" -> ok", "set d = "+spread(17, 1700)+" -> ok", "set e = c * d << 2^2^70 -> ok",
		"show e -> full", "value e -> full", "value e + gone -> none", "form e -> c * d << 2^2^70", "cmp e ; 0 -> greater", "lead 1 e -> 1", "value e >> e -> 0",
		"renewed -> e", "undo -> ok", "show e -> none")
}

// P8.2: cmp tells the order of two values, and the error of the first one ahead of that of the second one.
func TestCmp(t *testing.T) {
	answered(t,
		"cmp 1 ; 2 -> less", "cmp 2 ; 1 -> greater", "cmp 2 ; 2 -> same", "cmp -1 ; 1 -> less", "cmp -2^2^100 ; -2^2^100 - 1 -> greater", "cmp 2^2^100 * 2^2^100 ; 2^(2^101) -> same",
		"cmp gone ; 1 -> none", "cmp 1 ; gone -> none", "cmp 1 >> -1 ; gone -> arg", "cmp gone ; 1 >> -1 -> none", "cmp 2^-1 ; 2 -> range", "cmp tower(100) ; 2^-1 -> full",
		"cmp gone ; 1 + -> bad", "cmp 1 + ; gone -> bad", "cmp gone ; -> bad", "cmp ; gone -> bad", "cmp 1 -> bad", "cmp 1 2 -> bad", "cmp ; -> bad", "cmp 1 ; 2 ; 3 -> bad",
		"cmp gone ; 2 ; -> bad", "cmp 1 , 2 -> bad")
}

// P8.1: decimal numbers have 1 to 9 digits, and a minus sign only in lists.
func TestNumbers(t *testing.T) {
	for _, k := range []string{"0000000001", "1234567890", "00000000001", "+1", "-1", "-0", "1.", "1,", "0x1", "1_0", "a", "one", "١", "1e1", "(1)", "--1", "-", ".", "99999999999999999999"} {
		all(t, "bad", "last "+k+" 5", "lead "+k+" 5", "last "+k+" gone", "recur "+k+" 5 ; 1 ; 1")
		if k != "-1" && k != "-0" {
			all(t, "bad", "recur 7 5 ; "+k+" ; 1", "recur 7 5 ; 1 ; "+k, "recur 7 5 ; 1 "+k+" ; 1 1", "recur 7 5 ; 1 1 ; "+k+" 1", "recur 7 gone ; "+k+" ; 1")
		}
	}
	all(t, "bad",
		"recur 7 5 ; - 1 ; 1", "recur 7 5 ; 1-1 ; 1 1", "recur 7 5 ; 1 ; 1-", "recur 7 5 ; 1,1 ; 1 1", "recur 7 5 ; -0000000001 ; 1", "recur 7 5 ; 1 ; -1234567890",
		"recur 7 5 ; 1 - ; 1 1")
	answered(t,
		"last 000000001 12 -> 2", "lead 000000002 12 -> 3", "recur 000000007 10 ; 01 000000001 ; 000000000 1 -> 6", "recur 60 3 ; 999999999 ; -999999999 -> 39",
		"recur 60 0 ; -0 ; -00 -> 0", "last 0 5 -> arg", "last 000000000 5 -> arg")
}

// P8.2: last and lead tell digits; the error of the formula is ahead of that of the number of digits.
func TestDigits(t *testing.T) {
	answered(t,
		"last 3 2^100 -> 376", "last 1 -7 -> 7", "last 9 0 -> 0", "last 3 2^2^65536 -> 736", "last 9 123456789123 -> 456789123", "last 3 1001 -> 1",
		"lead 3 5 -> 5", "lead 2 5 -> 2", "lead 2 2^100 + 2^99 -> 3", "lead 4 -2^2^100 + 1 -> 15", "lead 60 2^70 -> 576460752303423488", "lead 1 0 -> 0",
		"last 10 5 -> arg", "last 0 5 -> arg", "lead 0 5 -> arg", "lead 61 5 -> arg", "lead 60 5 -> 5", "lead 10 5 -> 5", "last 999999999 5 -> arg",
		"last 10 gone -> none", "last 0 2^-1 -> range", "lead 61 gone -> none", "lead 0 tower(100) -> full", "last 1 1 >> -1 -> arg",
		"last 3 -> bad", "lead 3 -> bad", "last -> bad", "last 3+4 -> bad", "last (3) 4 -> bad", "last 3 4 5 -> bad", "last 10 1 + -> bad", "lead a 5 -> bad",
		"last gone -> bad", "last 3(5) -> bad", "last 3a -> bad", "last 3; 5 -> bad")
}

// P8.2: recur tells a number of a sequence; the error of the place is ahead of that of the sequence.
func TestRecur(t *testing.T) {
	answered(t,
		"recur 60 10 ; 1 1 ; 0 1 -> 55", "recur 5 2^2^100 ; 2 ; 3 -> 3", "recur 7 2 ; 1 2 3 ; 4 5 -1 -> 6", "recur 7 3 ; 1 2 3 ; 4 5 -1 -> 0", "recur 10 1 ; -3 ; 1 -> 7",
		"recur 1 5 ; 1 ; 1 -> 0", "set n = 10 -> ok", "recur 60 n ; 1 1 ; 0 1 -> 55",
		"recur 7 5 ; ; -> arg", "recur 7 5 ;; -> arg", "recur 7 5; ;1 -> arg", "recur 7 5 ; 1 ; -> arg", "recur 7 5 ; 1 2 ; 1 -> arg", "recur 7 5 ; 1 1 1 1 ; 1 1 1 1 -> arg",
		"recur 0 5 ; 1 ; 1 -> arg", "recur 61 5 ; 1 ; 1 -> arg", "recur 000000000 5 ; 1 ; 1 -> arg", "recur 7 -1 ; 1 ; 1 -> arg", "recur 7 n - 11 ; 1 ; 1 -> arg",
		"recur 7 gone ; ; -> none", "recur 0 2^-1 ; 1 ; 1 -> range", "recur 61 tower(100) ; 1 ; 1 -> full", "recur 7 gone ; 1 ; 1 2 -> none",
		"recur 7 ; 1 ; 1 -> bad", "recur 7 5 ; 1 -> bad", "recur 7 5 -> bad", "recur 7 -> bad", "recur ; 1 ; 1 -> bad", "recur ;; -> bad", "recur 5 ;; -> bad",
		"recur 7 5 ; 1 ; 1 ; -> bad", "recur 7 5 ; 1 ; 1 ; 1 -> bad", "recur 7 5 ;;; -> bad",
		"recur 7 5 ; a ; 1 -> bad", "recur 7 5 ; 1 ; n -> bad", "recur 0 gone ; 1 ; x -> bad", "recur 61 1 + ; 1 ; 1 -> bad", "recur 7(5) ; 1 ; 1 -> bad",
		"recur 7n ; 1 ; 1 -> bad", "recur n 7 ; 1 ; 1 -> bad", "recur 7 5 : 1 : 1 -> bad")
}

// P8.1, P8.2: words of Baumslag's group, with "." for the one without letters.
func TestBaum(t *testing.T) {
	most := strings.Repeat("bB", api.MaxWord/2)
	answered(t,
		"baum . -> unit", "baum baBabABAA -> unit", "baum baBabABA -> not", "baum a -> not", "baum b -> not", "baum "+most+" -> unit", "baum bBa -> not",
		"trace . -> 0 0", "trace bB -> 1 0", "trace ab -> 0 1", "trace Bab -> 0 2", "trace baBabABAA -> 2 0", "trace bbaBB -> 1 2", "trace a -> 0 0", "trace "+most+" -> 200 0", "trace bbb -> 0 3")
	for _, word := range []string{"", "..", ". .", ".a", "a.", "abc", "d", "a b", "aa 1", "a;", "-", "é", "a\x00", "1", "\"a\"", most + "a", strings.Repeat("a", api.MaxWord+1)} {
		all(t, "bad", "baum "+word, "trace "+word)
	}
}

// P8.1, P8.2: words of Higman's group.
func TestHigman(t *testing.T) {
	most := strings.Repeat("bdDB", api.MaxWord/4)
	answered(t,
		"higman . -> unit", "higman abABB -> unit", "higman bcBCC -> unit", "higman cdCDD -> unit", "higman daDAA -> unit", "higman "+most+" -> unit",
		"higman a -> length 0", "higman acac -> length 0", "higman b -> length 1", "higman bd -> length 2", "higman bdb -> length 3", "higman bdBD -> length 4",
		"higman cabAC -> length 1", "higman "+strings.Repeat("bd", api.MaxWord/2)+" -> length 400")
	for _, word := range []string{"", "..", ". .", ".a", "a.", "abe", "e", "a b", "a 1", "a;", "-", "é", "abcdx", most + "a", strings.Repeat("d", api.MaxWord+1)} {
		all(t, "bad", "higman "+word)
	}
}

// P8.2: run tells what a program prints, how it ends, and its steps.
func TestRunOfPrograms(t *testing.T) {
	answered(t,
		"run ->  ; ok 0", "run print 1; -> 1 ; ok 1", "run print 1; print 2^100; print -3; -> 1 | 2^100 | -3 ; ok 3", "run a = 1; ->  ; ok 1", "run repeat 2^100 { } print 5; -> 5 ; ok 2",
		"run print b; ->  ; none 1", "run print 1; print 1 >> -1; print 2; -> 1 ; arg 2", "run print 2^-1; ->  ; range 1", "run a = tower(100); ->  ; full 1",
		"run repeat 2^100 { a = 1; } ->  ; steps 5000", "run repeat -1 { } ->  ; arg 1", "run print 1; print 2; print low(0); -> 1 | 2 ; none 3",
		"run if 1 == 1 { print 1; } else { print 2; } -> 1 ; ok 2", "run if 1 != 1 { print 1; } else { print 2; } -> 2 ; ok 2",
		"set b = 7 -> ok", "run print b; ->  ; none 1", "run b = 8; print b; -> 8 ; ok 2", "show b -> 7", "renewed -> b",
		"run print 1 -> bad", "run print; -> bad", "run 1 -> bad", "run ; -> bad", "run a = ; -> bad", "run print 1; print rem(1); -> bad", "run print 1; } -> bad",
		"run repeat { } -> bad", "run . -> bad", "run print 1; x -> bad")
	printed := strings.Repeat("3 | ", 2498) + "3"
	answered(t, "run repeat 2^2^100 { print 3; } -> "+printed+" ; steps 5000")
}

// P8.2: look tells the image of the sheet, in 16 digits.
func TestLook(t *testing.T) {
	answered(t,
		"look -> "+lookOf(t), "set a = 1 -> ok", "look -> "+lookOf(t, "a: 1"), "look -> "+lookOf(t, "a: 1"), "set b = a + gone -> ok", "look -> "+lookOf(t, "a: 1", "b: a + gone"),
		"set a = 2^2^100 - 1 -> ok", "look -> "+lookOf(t, "a: 2^2^100 - 1", "b: a + gone"), "unset b -> ok", "look -> "+lookOf(t, "a: 2^2^100 - 1"), "set A = 1 -> bad",
		"set a = a -> ring", "look -> "+lookOf(t, "a: 2^2^100 - 1"))
	if lookOf(t) != "08328807b4eb6fed" {
		t.Error("an empty sheet: " + lookOf(t))
	}
}
