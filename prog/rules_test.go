package prog_test

import (
	"bytes"
	"slices"
	"strings"
	"testing"

	"sandreckoner/api"
	"sandreckoner/num"
	"sandreckoner/prog"
)

// checkBytes calls everything with a text of any bytes, and checks that nothing stands beside an error.
func checkBytes(t *testing.T, text string) {
	t.Helper()
	names := []prog.Name{{Name: "a", Value: num.Of(3)}, {Name: text, Value: num.Of(1)}, {}}
	x, err := prog.Eval(text, names)
	list, errNames := prog.Names(text)
	plain, errPlain := prog.Plain(text)
	printed, errRun, steps := prog.Run(text)
	if err != api.OK && x != (num.N{}) || errNames != api.OK && len(list) > 0 || errPlain != api.OK && plain != "" {
		t.Errorf("%q: results beside errors", text)
	}
	if errRun == api.ErrForm && (len(printed) > 0 || steps != 0) || steps > api.MaxSteps || steps < 0 {
		t.Errorf("%q: printed %q, error %d, %d steps", text, printed, errRun, steps)
	}
	if (errNames == api.ErrForm) != (errPlain == api.ErrForm) || (errNames == api.ErrForm) != (err == api.ErrForm) {
		t.Errorf("%q: errors %d, %d, %d", text, err, errNames, errPlain)
	}
}

// P1: no text makes a call panic, or run for ever.
func TestAnyText(t *testing.T) {
	for c := range 256 {
		for _, text := range []string{string([]byte{byte(c)}), "1" + string([]byte{byte(c)}), string([]byte{byte(c)}) + "1", "a" + string([]byte{byte(c)}) + "1"} {
			checkBytes(t, text)
			checkBytes(t, "print "+text+";")
		}
	}
	s := newSampler(71)
	alphabet := strings.Fields("a b 0 1 2 9 12 2^ 2^ ( ) ( ) , ; ; { } = == != < <= << >> > + - * print repeat if else rem len tower low Z ^ ! é")
	alphabet = append(alphabet, " ", "\n", "\t", "\x00", "\xff")
	for range 20000 {
		text := ""
		for range s.Intn(12) {
			text += alphabet[s.Intn(len(alphabet))]
		}
		checkBytes(t, text)
	}
	for _, piece := range []string{"(", "-", "2^", "len(", "repeat 2^100 {", "if 1<2{", "1+", "1,", "print 1;", "a=2^a;", "9", "a", "\xff", " ", "1 "} {
		for _, count := range []int{1, 100, 251, 500, 4000, 100000} {
			checkBytes(t, strings.Repeat(piece, count))
			checkBytes(t, strings.Repeat(piece, count)+"1")
		}
	}
}

// P1: calls with zero values and nil slices.
func TestZeroValues(t *testing.T) {
	if text, err := prog.Print(num.N{}); text != "0" || err != api.OK {
		t.Errorf("%q, error %d", text, err)
	}
	checkBytes(t, "")
	same(t, "a name of the value 0", eval(t, "a", prog.Name{Name: "a"}), num.Of(0))
	fails(t, "a", api.ErrNone)
	fails(t, "a", api.ErrNone, prog.Name{})
	fails(t, "", api.ErrForm, prog.Name{})
}

// P3, P4: no call changes its arguments, results are the caller's own, and calls tell the same again.
func TestCallsStandAlone(t *testing.T) {
	names := []prog.Name{{Name: "b", Value: power(t, num.Of(100))}, {Name: "a", Err: api.ErrArg}, {Name: "b"}}
	kept := slices.Clone(names)
	value := names[0].Value.Bytes()
	const program = "a = 2^100; repeat 3 { a = 2^a; print a; } print x;"
	for range 3 {
		same(t, "again", eval(t, "b * b", names...), power(t, num.Of(200)))
		runs(t, program, "2^(2^100) | 2^(2^(2^100)) | 2^(2^(2^(2^100)))", api.ErrNone, 12)
		list := good(prog.Names("c + b * a"))(t)
		list[0], list[1] = "x", "y"
		if again := good(prog.Names("c + b * a"))(t); strings.Join(again, "") != "abc" {
			t.Errorf("%q", again)
		}
		printed, _, _ := prog.Run("print 1; print 2;")
		clear(printed)
		runs(t, "print 1; print 2;", "1 | 2", api.OK, 2)
	}
	for i := range names {
		if names[i] != kept[i] {
			t.Errorf("name %d is another one", i)
		}
	}
	if !bytes.Equal(names[0].Value.Bytes(), value) {
		t.Error("a value has changed")
	}
}

// P3.6: a program begins without the values of another one.
func TestProgramsStandAlone(t *testing.T) {
	runs(t, "a = 1; print a;", "1", api.OK, 2)
	runs(t, "print a;", "", api.ErrNone, 1)
}
