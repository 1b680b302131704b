package desk_test

import (
	"fmt"
	"slices"
	"strings"
	"testing"

	"sandreckoner/api"
	"sandreckoner/desk"
)

// repeated returns a line so many times.
func repeated(line string, count int) []string {
	return slices.Repeat([]string{line}, count)
}

// P8.2: set and unset, and the errors of the sheet.
func TestChanges(t *testing.T) {
	answered(t,
		"set a = b + 1 -> ok", "show a -> none", "set b = 2 -> ok", "renewed -> a b", "show a -> 3", "set b = a -> ring", "set a = a -> ring", "set b = 1 >> -a -> ring",
		"renewed -> a b", "form b -> 2",
		"set b=-3 -> ok", "show a -> -2", "form b -> -3", "set b = ((1)+2)*x -> ok", "form b -> (1 + 2) * x", "show b -> none", "unset c -> none", "unset b -> ok",
		"renewed -> a", "unset b -> none", "form b -> none", "show b -> none", "value a -> none",
		"unset a -> ok", "renewed -> -", "show a -> none")
}

// P8.2: the sheet has at most MaxCells cells.
func TestFullSheet(t *testing.T) {
	var lines []string
	for i := range api.MaxCells {
		lines = append(lines, fmt.Sprintf("set %c%cz = %d -> ok", 'a'+i/26, 'a'+i%26, i))
	}
	answered(t, append(lines,
		"set b = 1 -> full", "renewed -> dvz", "set aaz = b -> ok", "set b = 1 + -> bad", "set b = b -> ring", "set b = aaz -> ring", "set b = abz -> full",
		"undo -> ok", "set b = 1 -> full", "redo -> ok", "unset abz -> ok", "set b = 1 -> ok", "undo -> ok", "undo -> ok", "set b = 1 -> full", "redo -> ok", "redo -> ok", "show aaz -> 1")...)
}

// P8.2: renewed tells what the last change has renewed, however many questions stand between.
func TestRenewed(t *testing.T) {
	answered(t,
		"renewed -> -", "set c = a -> ok", "renewed -> c", "set a = 1 -> ok", "renewed -> a c", "set b = c * 2 -> ok", "renewed -> b", "set a = 2 -> ok", "renewed -> a b c", "renewed -> a b c",
		"show b -> 4", "value a + b -> 6", "cmp a ; b -> less", "look -> "+lookOf(t, "a: 2", "b: c * 2", "c: a"), "run a = 1; b = 2; ->  ; ok 2", "baum . -> unit",
		"shout -> bad", "renewed -> a b c",
		"set a = c -> ring", "set A = 1 -> bad", "set d = 1 + -> bad", "unset d -> none", "unset 1 -> bad", "redo -> none", "renewed x -> bad", "renewed -> a b c",
		"set a = (2) -> ok", "renewed -> -", "unset c -> ok", "renewed -> b", "unset b -> ok", "renewed -> -")
}

// P8.2: behind an undo or redo all cells are renewed, until the next change.
func TestRenewedBehindUndo(t *testing.T) {
	answered(t,
		"set a = 1 -> ok", "set b = 2 -> ok", "set c = b -> ok", "renewed -> c", "undo -> ok", "renewed -> a b", "renewed -> a b", "redo -> ok", "renewed -> a b c",
		"redo -> none", "set a = a -> ring", "unset d -> none", "set 1 = a -> bad", "undo 1 -> bad", "renewed -> a b c",
		"set a = 1 -> ok", "renewed -> -", "undo -> ok", "renewed -> a b c", "set b = 3 -> ok", "renewed -> b c",
		"unset b -> ok", "renewed -> c", "undo -> ok", "renewed -> a b c", "redo -> ok", "renewed -> a c")
	answered(t, "set a = 1 -> ok", "undo -> ok", "renewed -> -", "undo -> none", "renewed -> -", "redo -> ok", "renewed -> a", "redo -> none", "renewed -> a")
	answered(t, "undo -> none", "redo -> none", "renewed -> -", "set b = a -> ok", "set a = 1 -> ok", "undo -> ok", "undo -> ok", "undo -> none", "renewed -> -")
}

// P8.2, P8.3: what is taken back leaves nothing, and what is done again is as it was.
func TestUndo(t *testing.T) {
	none, one, two, three := lookOf(t), lookOf(t, "a: 1"), lookOf(t, "a: 1", "b: a + gone"), lookOf(t, "a: 2^2^100", "b: a + gone")
	answered(t,
		"look -> "+none, "set a = 1 -> ok", "look -> "+one, "set b = a+gone -> ok", "look -> "+two, "set a = 2^2^100 -> ok", "look -> "+three,
		"undo -> ok", "look -> "+two, "show a -> 1", "undo -> ok", "look -> "+one, "form b -> none", "undo -> ok", "look -> "+none, "undo -> none", "look -> "+none,
		"redo -> ok", "look -> "+one, "redo -> ok", "look -> "+two, "form b -> a + gone", "redo -> ok", "look -> "+three, "show a -> 2^(2^100)", "redo -> none", "look -> "+three,
		"undo -> ok", "redo -> ok", "undo -> ok", "redo -> ok", "undo -> ok", "look -> "+two, "unset a -> ok", "look -> "+lookOf(t, "b: a + gone"), "redo -> none",
		"undo -> ok", "look -> "+two, "redo -> ok", "look -> "+lookOf(t, "b: a + gone"))
	// A cell comes back with its formula, and the cells that hang on it with their values.
	answered(t,
		"set b = a * 2 -> ok", "set a = 3 -> ok", "set a = 4 -> ok", "unset a -> ok", "show b -> none", "undo -> ok", "show b -> 8", "undo -> ok", "show b -> 6", "undo -> ok",
		"show b -> none", "redo -> ok", "show b -> 6", "redo -> ok", "show b -> 8", "redo -> ok", "show b -> none", "show a -> none")
}

// P8.2: a change that was answered with something else than "ok" cannot be taken back, and takes no redo away.
func TestRefusedChanges(t *testing.T) {
	answered(t,
		"set a = a -> ring", "unset a -> none", "set A = 1 -> bad", "set a = ( -> bad", "undo -> none",
		"set a = 1 -> ok", "set a = a -> ring", "unset b -> none", "set a = 1 + -> bad", "undo -> ok", "show a -> none", "undo -> none",
		"set a = a -> ring", "unset a -> none", "unset -> bad", "set a = 1 + -> bad", "show a -> none", "redo -> ok", "show a -> 1",
		"undo -> ok", "set b = 1 -> ok", "redo -> none", "undo -> ok", "redo -> ok", "show b -> 1", "show a -> none", "redo -> none")
	// Also where nothing had been taken back but what was done again.
	answered(t,
		"set a = 1 -> ok", "set b = 1 -> ok", "undo -> ok", "undo -> ok", "redo -> ok", "set c = 1 -> ok", "redo -> none", "show b -> none", "undo -> ok", "undo -> ok",
		"undo -> none", "redo -> ok", "redo -> ok", "redo -> none", "show c -> 1", "show b -> none")
	answered(t, "set a = 1 -> ok", "undo -> ok", "set a = 2 -> ok", "unset a -> ok", "redo -> none", "undo -> ok", "show a -> 2")
	answered(t, "set a = 1 -> ok", "set b = 2 -> ok", "undo -> ok", "unset a -> ok", "redo -> none", "show b -> none", "undo -> ok", "show a -> 1")
}

// P8.3: a set that gives a cell the formula that it has is a change like any other.
func TestChangesWithoutEffect(t *testing.T) {
	answered(t,
		"set a = 1 + 2 -> ok", "set a = 1 + 2 -> ok", "set a = (1)+2 -> ok", "renewed -> -", "undo -> ok", "show a -> 3", "renewed -> a", "undo -> ok", "show a -> 3",
		"undo -> ok", "show a -> none", "undo -> none",
		"redo -> ok", "redo -> ok", "redo -> ok", "redo -> none", "form a -> 1 + 2")
	answered(t, "set a = 1 -> ok", "set b = 2 -> ok", "undo -> ok", "set a = 1 -> ok", "redo -> none", "undo -> ok", "show a -> 1", "undo -> ok", "show a -> none", "undo -> none")
}

// counted returns a script of so many changes, in each of which a has the next number.
func counted(count int) []string {
	var lines []string
	for i := range count {
		lines = append(lines, fmt.Sprintf("set a = %d -> ok", i))
	}
	return lines
}

// P8.2: at most MaxUndo changes are taken back, one after another; older ones are forgotten.
func TestMaxUndo(t *testing.T) {
	undo, redo := repeated("undo -> ok", api.MaxUndo), repeated("redo -> ok", api.MaxUndo)
	for _, script := range [][][]string{
		{counted(api.MaxUndo), undo, {"show a -> none", "undo -> none"}, redo, {"redo -> none", "show a -> 49"}},
		{counted(api.MaxUndo + 1), undo, {"show a -> 0", "undo -> none", "show a -> 0"}, redo, {"redo -> none", "show a -> 50"}, undo, {"undo -> none", "show a -> 0"}},
		// What is forgotten does not come back: neither where others are done again, nor where there are new ones.
		{counted(api.MaxUndo + 30), undo[:20], {"show a -> 59"}, redo[:10], undo[:40], {"undo -> none", "show a -> 29"}},
		{counted(api.MaxUndo + 5), undo, {"undo -> none", "set b = 1 -> ok", "redo -> none", "undo -> ok", "undo -> none", "show a -> 4"}},
		{counted(api.MaxUndo + 5), undo[:20], repeated("set b = 1 -> ok", 20), undo, {"undo -> none", "show a -> 4", "show b -> none"}, redo, {"redo -> none", "show a -> 34", "show b -> 1"}},
		// What is refused does not count, and what has no effect does.
		{counted(1), repeated("set a = 1 + -> bad", 60), repeated("set a = a -> ring", 60), {"undo -> ok", "show a -> none"}},
		{counted(1), repeated("set a = 0 -> ok", api.MaxUndo), undo, {"undo -> none", "show a -> 0"}},
	} {
		answered(t, slices.Concat(script...)...)
	}
}

// T9: a script whose changes are taken back shows what it showed before.
func TestTakenBack(t *testing.T) {
	questions := []string{"look", "show a", "show b", "show c", "form a", "form b", "value a + b * c", "cmp a ; b", "last 3 c", "recur 7 a ; 1 1 ; 0 1", "run print 1;", "baum aA"}
	changes := []string{"set a = 5", "set b = 2^a", "set c = 2^2^b - a", "unset a", "set a = b", "unset d", "set d = (", "set a = 7", "set b = 1", "set b = 1", "unset b", "unset c", "unset a"}
	taken := func(count int, script ...string) []string {
		list := desk.Run(strings.Join(script, "\n"))
		return list[len(list)-count:]
	}
	for first := range changes {
		before := taken(len(questions), slices.Concat(changes[:first], questions)...)
		for end := first + 1; end <= len(changes); end++ {
			script := slices.Concat(changes[:first], changes[first:end])
			made := 0
			for _, answer := range taken(end-first, script...) {
				if answer == "ok" {
					made++
				}
			}
			script = append(script, repeated("undo", made)...)
			if behind := taken(len(questions), slices.Concat(script, questions)...); !slices.Equal(behind, before) {
				t.Errorf("%q: %q, not %q", script, behind, before)
			}
		}
	}
}

// T9: scripts that end in the same contents show the same.
func TestSameContents(t *testing.T) {
	want := lookOf(t, "a: 2^100", "b: a + c", "c: 7")
	for _, script := range []string{
		"set a = 2^100\nset b = a + c\nset c = 7",
		"set c=7\nset b=a+c\nset a=2^100",
		"set b = (a) + (c)\nset a = 1\nset c = 7\nset a = (2^100)",
		"set a = 2^100\nset d = 1\nset b = a + c\nset c = 7\nunset d",
		"set a = 2^100\nset b = a + c\nset c = 7\nunset a\nundo",
		"set a = 2^100\nset b = a + c\nset c = 7\nundo\nundo\nundo\nredo\nredo\nredo",
		"set a = 2^100\nset b = a + c\nset c = b\nset c = 7\nset b = 1\nset c = 1\nundo\nundo",
	} {
		if list := desk.Run(script + "\nlook"); list[len(list)-1] != want {
			t.Errorf("%q: %q", script, list)
		}
	}
}
