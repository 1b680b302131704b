package prog_test

import (
	"math/big"
	"slices"
	"strings"
	"testing"

	"sandreckoner/api"
	"sandreckoner/prog"
)

// runs checks what a program prints, its error, and its steps.
func runs(t *testing.T, source, out string, want api.Errno, steps int) {
	t.Helper()
	printed, err, made := prog.Run(source)
	if strings.Join(printed, " | ") != out || err != want || made != steps {
		t.Errorf("%q: %q, error %d, %d steps, not %q, error %d, %d steps", source, printed, err, made, out, want, steps)
	}
}

// ill checks that a text is no program: nothing is printed, and no steps are made.
func ill(t *testing.T, source string) {
	t.Helper()
	runs(t, source, "", api.ErrForm, 0)
}

// P3.5, P3.6: the document's examples, and each statement.
func TestRun(t *testing.T) {
	runs(t, "a = 1; repeat 4 { a = 2^a; print a; } if a == 2^17 { print 0; } else { print a >> 10; }", "2 | 4 | 16 | 65536 | 64", api.OK, 16)
	runs(t, "", "", api.OK, 0)
	runs(t, "print 7;", "7", api.OK, 1)
	runs(t, "print 2^100 - 1;", "2^100 - 2^0", api.OK, 1)
	runs(t, "print 2^2^100;", "2^(2^100)", api.OK, 1)
	runs(t, "a = 3; b = a + 1; a = b * a; print a; print b;", "12 | 4", api.OK, 5)
	runs(t, "repeat 3 { print 1; print 2; }", "1 | 2 | 1 | 2 | 1 | 2", api.OK, 10)
	runs(t, "repeat 0 { print 1; } print 2;", "2", api.OK, 2)
	runs(t, "repeat 2 { repeat 2 { print 1; } }", "1 | 1 | 1 | 1", api.OK, 13)
	runs(t, "n = 2; repeat n { n = n + 5; print n; } print n;", "7 | 12 | 12", api.OK, 9)
	runs(t, "a = 1; b = 1; repeat 8 { c = a + b; a = b; b = c; } print b;", "55", api.OK, 36)
	runs(t, "if 1 == 1 { a = 4; } print a;", "4", api.OK, 3)
	runs(t, "if 1 == 2 { a = 4; } else { a = 5; } print a;", "5", api.OK, 3)
	runs(t, "if 1 == 2 { print 1; } print 3;", "3", api.OK, 2)
	runs(t, "repeat 2 { if a == a { } }", "", api.ErrNone, 3)
	runs(t, "repeat 1 { a = 7; } print a;", "7", api.OK, 4) // a name is one of the whole program
}

// P3.5: all tests of an if.
func TestRunTests(t *testing.T) {
	for test, want := range map[string]string{
		"1 < 2": "1", "2 < 2": "0", "3 < 2": "0", "1 <= 2": "1", "2 <= 2": "1", "3 <= 2": "0", "2 == 2": "1", "2 == 3": "0", "2 != 2": "0", "2 != 3": "1",
		"-1<-2": "0", "-2<-1": "1", "2^100<2^100+1": "1", "2^2^100 <= 2^2^100 - 1": "0", "2^2^100 == 1 << 2^100": "1", "-2^2^100 != 2^2^100": "1", "1<<2<5": "1", "5<1<<2": "0", "8>>1<=1<<2": "1", "(1)==(1)": "1", "2!=-2": "1",
	} {
		runs(t, "if "+test+" { print 1; } else { print 0; }", want, api.OK, 2)
		runs(t, "if(0)<1{if"+strings.ReplaceAll(test, " ", "\n")+"{print 1;}else{print 0;}}", want, api.OK, 3)
	}
}

// P3.6: an empty block is not run at all; a count is calculated in any case.
func TestRunEmptyBlocks(t *testing.T) {
	runs(t, "repeat 2^100 { } print 5;", "5", api.OK, 2)
	runs(t, "repeat 2^100 {} repeat 7 {\n} repeat 0 {\t}", "", api.OK, 3)
	runs(t, "repeat -1 { } print 5;", "", api.ErrArg, 1)
	runs(t, "repeat x { } print 5;", "", api.ErrNone, 1)
	runs(t, "repeat 2^-1 { }", "", api.ErrRange, 1)
	runs(t, "repeat 3 { repeat 2^100 { } }", "", api.OK, 7)
	runs(t, "if 1 < 2 { } print 1;", "1", api.OK, 2)
	runs(t, "if 1 < 2 { } else { print 2; } print 1;", "1", api.OK, 2)
	runs(t, "if 2 < 1 { print 2; } else { } print 1;", "1", api.OK, 2)
	runs(t, "if 1 < 2 { } else { }", "", api.OK, 1)
}

// P3.6: the step that would be number MaxSteps + 1 ends the program ahead of doing anything.
func TestRunSteps(t *testing.T) {
	runs(t, "repeat 2^100 { a = 1; }", "", api.ErrSteps, 5000)
	runs(t, "repeat 2^2^100 { repeat 2^100 { } }", "", api.ErrSteps, 5000)
	runs(t, "repeat 2^63 - 1 { a = 1; }", "", api.ErrSteps, 5000)
	runs(t, "repeat 2^63 { a = 1; }", "", api.ErrSteps, 5000)
	runs(t, "repeat 2^64 { a = 1; }", "", api.ErrSteps, 5000)
	runs(t, "repeat 2^32 { a = 1; }", "", api.ErrSteps, 5000)
	runs(t, "repeat 2499 { a = 1; }", "", api.OK, 4999)
	runs(t, "repeat 2499 { a = 1; } print 1;", "1", api.OK, 5000)
	runs(t, "repeat 2499 { a = 1; } print 1; print 2;", "1", api.ErrSteps, 5000)
	runs(t, "repeat 2499 { a = 1; } print 1; print low(0);", "1", api.ErrSteps, 5000)
	runs(t, "repeat 2499 { a = 1; } print low(0);", "", api.ErrNone, 5000)
	runs(t, "repeat 2499 { a = 1; } repeat 2 { print 2; }", "", api.ErrSteps, 5000)
	runs(t, "repeat 2499 { a = 1; } repeat -1 { print 2; }", "", api.ErrArg, 5000)
	runs(t, "repeat 2499 { a = 1; } repeat 2 { } repeat -1 { }", "", api.ErrSteps, 5000)
	runs(t, "repeat 2499 { a = 1; } if 1 < 2 { print 1; }", "", api.ErrSteps, 5000)
	runs(t, "repeat 2499 { a = 1; } if 1 < 2 { } else { print 1; }", "", api.OK, 5000)
	runs(t, "repeat 2500 { a = 1; }", "", api.ErrSteps, 5000)
	runs(t, "print 1; repeat 2500 { a = 1; }", "1", api.ErrSteps, 5000)
	runs(t, "repeat 5000 { print 1; }", strings.TrimSuffix(strings.Repeat("1 | ", 2499), " | "), api.ErrSteps, 5000)
	runs(t, "repeat 4999 { if 1 < 2 { } }", "", api.ErrSteps, 5000)
}

// P3.6: errors end the program; what was printed until then stays.
func TestRunErrors(t *testing.T) {
	runs(t, "print x;", "", api.ErrNone, 1)
	runs(t, "a = a;", "", api.ErrNone, 1)
	runs(t, "a = 1; print 1 >> -a; print 2;", "", api.ErrArg, 2)
	runs(t, "print 1; print 2^-1; print 2;", "1", api.ErrRange, 2)
	runs(t, "a = 3; a = low(a - 3); print 2;", "", api.ErrNone, 2)
	runs(t, "print 4; repeat 3 { print 5; a = tower(101); }", "4 | 5", api.ErrArg, 5)
	runs(t, "repeat 2^-1 - x { print 5; }", "", api.ErrRange, 1)
	runs(t, "repeat -2^100 { print 5; }", "", api.ErrArg, 1)
	runs(t, "repeat 2 { a = tower(100); }", "", api.ErrFull, 3)
	runs(t, "if 2^-1 < low(0) { }", "", api.ErrRange, 1)
	runs(t, "if low(0) < 2^-1 { }", "", api.ErrNone, 1)
	runs(t, "if 1 < 2^-1 { print 1; } else { print 2; }", "", api.ErrRange, 1)
	runs(t, "if x == x { print 1; } else { print 2; }", "", api.ErrNone, 1)
	runs(t, "if 1 < 2 { print 1; } else { print x; }", "1", api.OK, 2)
	runs(t, "print 1; if 1 < 2 { print x; } print 3;", "1", api.ErrNone, 3)
	runs(t, "a = 1; repeat 60 { a = 2^a + 2^(a + 2); } print a;", "", api.ErrFull, 123)
	runs(t, "print 1; a = 2^100; repeat 12 { a = 2^a + 2^(a + 2); } print 7; print a; print 8;", "1 | 7", api.ErrFull, 29)
	runs(t, "a = 1; b = 0 - a; a = b >> b; print a;", "", api.ErrArg, 3)
}

// P3.5: what is a program, and what is not.
func TestProgramsWellFormed(t *testing.T) {
	runs(t, " \n\t", "", api.OK, 0)
	runs(t, "\tprint 1 ;\n", "1", api.OK, 1)
	runs(t, "print1;print(2);print-3;print2^2;", "1 | 2 | -3 | 4", api.OK, 4)
	runs(t, "a=-1;print a;if a<=-1{print a<<2;}", "-1 | -4", api.OK, 4)
	runs(t, "repeat2{print 1;}if1<2{print 3;}else{print 4;}", "1 | 1 | 3", api.OK, 7)
	runs(t, "prints = 1; ifs = 2; elsea = 3; lens = 4; repeats = 5; print prints + ifs + elsea + lens + repeats;", "15", api.OK, 6)
	runs(t, "a\n=\n1\n;\nif\na\n<\n2\n{\nprint\na\n;\n}\nelse\n{\n}", "1", api.OK, 3)
	for _, source := range []string{
		"print 1", "print;", "print = 1;", "print 1;;", ";", "a", "a;", "a = ;", "a 1;", "a = 1", "= 1;", "a == 1;", "a = = 1;", "a = b = 1;", "1 = a;", "2^a = 1;", "(a) = 1;", "a + 1;", "a = 1, 2;", "a <= 1;", "A = 1;", "aB = 1;", "abcdefghi = 1;",
		"len = 1;", "rem = 1;", "if = 1;", "else = 1;", "repeat = 1;", "tower(1);", "print len;", "print if;", "print print;", "print a b;", "print 12^3;", "print 01;", "print 2 ^3;", "print 1 < 2;", "print 1 == 1;", "print (1 < 2);", "print a = 1;",
		"repeat { }", "repeat 1;", "repeat 1 print 1;", "repeat 1 { print 1; ", "repeat 1 { print 1 }", "repeat 1 } {", "repeat 1 < 2 { }", "repeat 1 { } else { }", "repeat (1 { )}", "repeat 1, 2 { }",
		"if { }", "if 1 { }", "if 1 < { }", "if < 1 { }", "if 1 < 2;", "if 1 < 2 print 1;", "if 1 < 2 < 3 { }", "if 1 = 2 { }", "if 1 > 2 { }", "if 1 >= 2 { }", "if 1 => 2 { }", "if 1 ! = 2 { }", "if 1 < = 2 { }", "if 1 = = 2 { }", "if 1 === 2 { }", "if 1 <<= 2 { }", "if 1 <=< 2 { }", "if 1 <> 2 { }", "if 1 !2 { }", "if (1 < 2) { }",
		"if 1 < 2 { } else", "if 1 < 2 { } else print 1;", "if 1 < 2 { } else if 1 < 2 { }", "if 1 < 2 { } else { } else { }", "else { }", "{ }", "{", "}", "print 1; }", "{ print 1; }", "if 1 < 2 { } ; else { }",
		"print 1; # 2", "print 1; // 2", "print 1;\r\n", "print 1;\x00", "print é;", "a = \"1\";", "print 1000000000000000000;",
		"print 1; print rem(7);", "print 1; repeat 0 { print len(1, 2); }", "if 1 < 2 { print 1; } else { a = min(); }",
	} {
		ill(t, source)
		ill(t, "print 1; "+source)
	}
}

// P3.5: a program has at most MaxSource bytes; the plain texts of its sums may have more.
func TestLengthOfPrograms(t *testing.T) {
	const begin = "print 1;"
	spaces := strings.Repeat(" ", api.MaxSource-len(begin))
	runs(t, begin+spaces, "1", api.OK, 1)
	runs(t, spaces+begin, "1", api.OK, 1)
	ill(t, begin+spaces+" ")
	ill(t, spaces+" "+begin)
	ill(t, strings.Repeat(" ", api.MaxSource+1))
	long := "print 1" + strings.Repeat("+1", (api.MaxSource-8)/2) + ";"
	runs(t, long, "1997", api.OK, 1)
	ill(t, long+"\n ")
	runs(t, strings.Repeat(begin, api.MaxSource/len(begin)), strings.TrimSuffix(strings.Repeat("1 | ", 500), " | "), api.OK, 500)
}

// P3.5: blocks are levels of all that is in them.
func TestLevelsOfPrograms(t *testing.T) {
	const most = api.MaxNest
	blocks := func(levels int, inside string) string {
		return strings.Repeat("repeat 1 {", levels) + inside + strings.Repeat("}", levels)
	}
	choices := func(levels int, inside string) string {
		return strings.Repeat("if 0<1{", levels) + inside + strings.Repeat("}", levels)
	}
	runs(t, blocks(most, "print 1;"), "1", api.OK, 2*most+1)
	runs(t, choices(most, "print 1;"), "1", api.OK, most+1)
	runs(t, blocks(most, ""), "", api.OK, 2*most-1)
	runs(t, choices(most-1, "if 0<1{}else{print 0;}"), "", api.OK, most)
	runs(t, choices(most-1, "if 1<0{}else{print 0;}"), "0", api.OK, most+1)
	runs(t, choices(most-1, "print -1; print 2^2; print len(3); print (4);"), "-1 | 4 | 2 | 4", api.OK, most+3)
	runs(t, choices(most-2, "print (-1);"), "-1", api.OK, most-1)
	runs(t, choices(most-1, "repeat (1) {}"), "", api.OK, most)
	runs(t, choices(most-1, "if (1)<-2 {}"), "", api.OK, most)
	runs(t, strings.Repeat("if 0<1{}", 300), "", api.OK, 300) // beside one another
	for _, inside := range []string{"repeat 1 {}", "if 0<1 {}", "print (1);", "print -1;", "a = 2^1;", "a = len(1);", "repeat -1 {}", "if -1<0 {}"} {
		ill(t, choices(most, inside))
	}
	ill(t, blocks(most+1, ""))
	ill(t, choices(most+1, "print 1;"))
	ill(t, choices(most-1, "print (-1);"))
	ill(t, choices(most, "if 0<1 {} else {}"))
	ill(t, "if 1<0 {} else {"+choices(most, "")+"}")
	ill(t, "print "+strings.Repeat("(", most+1)+"1"+strings.Repeat(")", most+1)+";")
}

// line is a statement: "print", "repeat", "if", or the name that it gives a value.
type line struct {
	word   string
	mark   string
	sums   []*tree
	blocks [][]line
}

// lines makes a block.
func (s sampler) lines(levels int) []line {
	var block []line
	for range s.Intn(4) {
		l := line{word: []string{"a", "b", "x", "y", "print", "repeat", "if"}[s.Intn(7)]}
		l.sums = append(l.sums, s.tree(s.Intn(3)))
		switch l.word {
		case "repeat":
			l.sums[0] = &tree{word: []string{"0", "1", "2", "3", "a", "x"}[s.Intn(6)]}
			if s.Intn(8) == 0 {
				l.sums[0] = &tree{"2^", []*tree{{word: "100"}}}
			}
			l.blocks = append(l.blocks, s.block(levels))
		case "if":
			l.mark = []string{"<", "<=", "==", "!="}[s.Intn(4)]
			l.sums = append(l.sums, s.tree(s.Intn(2)))
			l.blocks = append(l.blocks, s.block(levels))
			if s.Intn(2) == 0 {
				l.blocks = append(l.blocks, s.block(levels))
			}
		}
		block = append(block, l)
	}
	return block
}

// block makes a block that is in another one.
func (s sampler) block(levels int) []line {
	if levels == 0 {
		return nil
	}
	return s.lines(levels - 1)
}

// program returns one of the many texts of a block.
func (s sampler) program(block []line) string {
	text := s.space()
	for _, l := range block {
		text += l.word + s.space()
		switch l.word {
		case "print", "repeat", "if":
			text += " " + s.source(l.sums[0])
		default:
			text += "=" + s.source(l.sums[0])
		}
		if l.mark != "" {
			text += l.mark + s.source(l.sums[1])
		}
		for i, inner := range l.blocks {
			text += []string{"", "else"}[i] + s.space() + "{" + s.program(inner) + "}" + s.space()
		}
		if len(l.blocks) == 0 {
			text += ";" + s.space()
		}
	}
	return text
}

// runner runs programs, as long as all numbers can be written out and printed in decimal.
type runner struct {
	model
	printed []string
	steps   int
	lost    bool // a number could not be written out
}

func (r *runner) step() api.Errno {
	if r.steps == api.MaxSteps {
		return api.ErrSteps
	}
	r.steps++
	return api.OK
}

func (r *runner) run(block []line) api.Errno {
	for _, l := range block {
		if err := r.step(); err != api.OK {
			return err
		}
		var sums []*big.Int
		for _, f := range l.sums {
			x, err, ok := r.value(f)
			r.lost = r.lost || !ok
			if err != api.OK || r.lost {
				return err
			}
			sums = append(sums, x)
		}
		if err := r.line(l, sums); err != api.OK || r.lost {
			return err
		}
	}
	return api.OK
}

func (r *runner) line(l line, sums []*big.Int) api.Errno {
	switch l.word {
	case "print":
		r.lost = len(sums[0].String()) > 18
		r.printed = append(r.printed, sums[0].String())
	case "repeat":
		if sums[0].Sign() < 0 {
			return api.ErrArg
		}
		for i := big.NewInt(0); len(l.blocks[0]) > 0 && i.Cmp(sums[0]) < 0; i.Add(i, big.NewInt(1)) {
			if err := r.step(); err != api.OK {
				return err
			}
			if err := r.run(l.blocks[0]); err != api.OK || r.lost {
				return err
			}
		}
	case "if":
		order := sums[0].Cmp(sums[1])
		if map[string]bool{"<": order < 0, "<=": order <= 0, "==": order == 0, "!=": order != 0}[l.mark] {
			return r.run(l.blocks[0])
		}
		if len(l.blocks) > 1 {
			return r.run(l.blocks[1])
		}
	default:
		r.values[l.word] = sums[0]
	}
	return api.OK
}

// P3.5, P3.6: random programs do what a plain interpreter does.
func TestRandomPrograms(t *testing.T) {
	s := newSampler(61)
	counts := map[api.Errno]int{}
	for range 4000 {
		block := s.lines(3)
		if s.Intn(4) > 0 {
			block = append([]line{{word: "a", sums: []*tree{{word: "2"}}}, {word: "x", sums: []*tree{{word: "1"}}}}, block...)
		}
		text := s.program(block)
		r := runner{model: model{values: map[string]*big.Int{}}}
		want := r.run(block)
		if r.lost || len(text) > api.MaxSource {
			continue
		}
		counts[want]++
		printed, err, steps := prog.Run(text)
		if err != want || steps != r.steps || !slices.Equal(printed, r.printed) {
			t.Fatalf("%q: %q, error %d, %d steps, not %q, error %d, %d steps", text, printed, err, steps, r.printed, want, r.steps)
		}
	}
	for _, err := range []api.Errno{api.OK, api.ErrArg, api.ErrNone, api.ErrSteps} {
		if counts[err] < 10 {
			t.Errorf("only %d with the error %d", counts[err], err)
		}
	}
}
