package desk_test

import (
	"slices"
	"strings"
	"testing"

	"sandreckoner/api"
	"sandreckoner/desk"
)

// P1: no script makes Run panic.
func TestAnyBytes(t *testing.T) {
	r := newSampler(3)
	for range 3000 {
		script := make([]byte, r.Intn(200))
		for i := range script {
			script[i] = byte(r.Intn(256))
			if r.Intn(3) == 0 {
				script[i] = "\n  =;-a1"[r.Intn(8)]
			}
		}
		if list := desk.Run(string(script)); len(list) != strings.Count(string(script), "\n")+1 {
			t.Fatalf("%q: %q", script, list)
		}
	}
	for c := range 256 {
		line := string([]byte{byte(c)})
		want := []string{"bad"}
		if line == "\n" {
			want = []string{"", ""}
		} else if line == " " {
			want = []string{""}
		}
		if list := desk.Run(line); !slices.Equal(list, want) {
			t.Errorf("%q: %q", line, list)
		}
	}
}

// P1: long runs of what may stand in a line.
func TestLongRuns(t *testing.T) {
	for _, command := range strings.Fields("set unset show form renewed value cmp last lead recur baum trace higman run undo redo look") {
		for _, run := range []string{"a", "1", "-", "(", "2^", ";", "=", " 1", ".", "1;", "a=", "B", "{", "repeat 1 {", "if 1<2{", "\t", "\xff"} {
			for _, begin := range []string{" ", " 1 ", " a = ", " 1 ; ", " 1 1 ; 1 ; ", " 7 5 ; "} {
				line := command + begin + strings.Repeat(run, (api.MaxSource-20)/len(run))
				if list := desk.Run(line); len(list) != 1 || list[0] == "" {
					t.Errorf("%.30q: %d answers", line, len(list))
				}
			}
		}
	}
	answered(t, "run "+strings.Repeat("\t", 3000)+" ->  ; ok 0", "last 1 "+strings.Repeat(" ", 900)+"7 -> 7")
	// As many lists, numbers, changes and words as a script takes.
	for _, line := range []string{
		"set a = 2^a", "set a = b", "set b = 2^2^9", "unset a", "undo", "redo", "look", "renewed",
		"value 2^2^2^9", "baum baBabABA", "higman bdbd", "cmp 1;1", "run print 1;", "recur 7 5;1;1", "last 1 5",
	} {
		count := api.MaxSource/(len(line)+1) - 1
		if list := desk.Run(strings.Repeat(line+"\n", count)); len(list) != count+1 {
			t.Errorf("%s: %d answers", line, len(list))
		}
	}
	list := desk.Run("recur 7 5 ;" + strings.Repeat(" 1", 900) + " ;" + strings.Repeat(" -1", 600))
	if !slices.Equal(list, []string{"arg"}) {
		t.Errorf("%q", list)
	}
}

// P3, P4: answers are the caller's own, and the same script has the same ones, whatever was run before: each run has a new desk.
func TestSameAgain(t *testing.T) {
	r := newSampler(8)
	var scripts []string
	for range 20 {
		var lines []string
		for range 40 {
			lines = append(lines, r.line())
		}
		scripts = append(scripts, strings.Join(lines, "\n"))
	}
	first := map[string][]string{}
	for range 3 {
		for _, script := range scripts {
			list := desk.Run(script)
			if _, ok := first[script]; !ok {
				first[script] = slices.Clone(list)
			}
			if !slices.Equal(list, first[script]) {
				t.Fatalf("%q: %q, not %q", script, list, first[script])
			}
			clear(list[:cap(list)])
		}
	}
	answered(t, "show a -> none", "undo -> none", "redo -> none", "renewed -> -", "look -> "+lookOf(t))
}
