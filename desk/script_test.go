package desk_test

import (
	"strings"
	"testing"

	"scarab/api"
	"scarab/desk"
)

// plays asks what Run tells of a script.
func plays(t *testing.T, script, want string) {
	t.Helper()
	if s, at, e := desk.Run(script); s != want || at != 0 || e != api.OK {
		t.Errorf("%q: %q %d %v, not %q", script, s, at, e, want)
	}
}

// refused asks that Run tells an error of a script, and nothing else.
func refused(t *testing.T, script string, line int, want api.Errno) {
	t.Helper()
	if s, at, e := desk.Run(script); s != "" || at != line || e != want {
		t.Errorf("%.60q: %.60q %d %v, not %d %v", script, s, at, e, line, want)
	}
}

// 28.2: the chapter's examples.
func TestExamples(t *testing.T) {
	plays(t, "program\n|scarab\n|func 0 0\n|yield\n|end\nall dpor\ncheck tree\ngraph 9\n", "program 2 1\nall 1 0 0 complete\ncheck right 1 0\ngraph 2 1 1 0 complete\n")
	plays(t, "text", "error 281\n")
	refused(t, "texts", 1, api.ErrCommand)
	plays(t, "program", "error 53 0\n")
}

// 28.2: lines: each ends with a byte 10, the last one may do without.
func TestLines(t *testing.T) {
	plays(t, "", "")
	plays(t, "\n", "")
	plays(t, "\n\n\n", "")
	plays(t, "sum", "error 281\n")
	plays(t, "sum\n", "error 281\n")
	plays(t, "sum\n\n", "error 281\n")
	plays(t, "\nsum\nsum", "error 281\nerror 281\n")
	refused(t, "sum\r\n", 1, api.ErrCommand)
	refused(t, "sum\n\r", 2, api.ErrCommand)
	refused(t, "\n\nx", 3, api.ErrCommand)
	refused(t, "\n\nx\n", 3, api.ErrCommand)
}

// 28.2: notes: nothing is done, nothing told, whatever their bytes.
func TestNotes(t *testing.T) {
	plays(t, "#", "")
	plays(t, "# a note\n#\xff\x00  \r\n#sum\nsum\n#|x\n", "error 281\n")
	refused(t, " # no note", 1, api.ErrCommand)
	refused(t, " ", 1, api.ErrCommand)
	refused(t, "sum # no note", 1, api.ErrCommand)
	refused(t, ";", 1, api.ErrCommand)
}

// 28.2: program lines stand behind a line program alone.
func TestProgramLines(t *testing.T) {
	plays(t, laid(lone)+laid(pair), "program 2 1\nprogram 5 3\n")
	plays(t, "program\n|scarab\n|func 0 0\n|yield\n|end", "program 2 1\n")
	plays(t, "program\n|scarab ; \xff\x00|x\n|\n|func 0 0\t\n|  yield\n|end", "program 2 1\n")
	// each line has its byte 10: what stands in two lines is no one line.
	plays(t, "program\n|scarab\n|fu\n|nc 0 0\n|end", "error 50 2\n")
	plays(t, "program\n|scarab\n|func 0 0\n||end", "error 50 3\n")
	plays(t, "program\n|scarab\n|func 0 0\n|end\r", "error 50 3\n")
	plays(t, "program\n|", "error 53 0\n")
	plays(t, "program\n#\n", "error 53 0\n")
	for _, x := range []struct {
		script string
		line   int
	}{
		{"|", 1}, {"|scarab", 1}, {"sum\n|scarab", 2}, {"# program\n|scarab", 2}, {"program\n\n|scarab", 3}, {"program\n|scarab\n#\n|func 0 0", 4},
		{"program\n|scarab\n\n|func 0 0\n|end", 4}, {"program\nsum\n|scarab", 3}, {"bytes 00\n|scarab", 2}, {"program x\n|scarab", 1}, {"program\n |scarab", 2},
		{"program \n|scarab", 1}, {"program\n|scarab\nfunc 0 0", 3},
	} {
		refused(t, x.script, x.line, api.ErrCommand)
	}
}

// 28.2: the first line that is neither a note nor a command is told, and nothing is done.
func TestFirstLine(t *testing.T) {
	refused(t, laid(lone)+"sum\nsums\nx\n", 7, api.ErrCommand)
	refused(t, laid(lone)+"# x\n\nsum\n|\n", 9, api.ErrCommand)
	refused(t, strings.Repeat("sum\n", desk.MaxLines-1)+"sum ", desk.MaxLines, api.ErrCommand)
}

// 28.2: as many bytes and lines as there may be, and more; these are told ahead of lines that are no commands.
func TestLong(t *testing.T) {
	note := func(n int) string { return "#" + strings.Repeat("x", n-1) }
	plays(t, note(api.MaxBytes), "")
	plays(t, note(api.MaxBytes-5)+"\nsum\n", "error 281\n")
	refused(t, note(api.MaxBytes+1), 0, api.ErrLong)
	refused(t, note(api.MaxBytes)+"\n", 0, api.ErrLong)
	refused(t, strings.Repeat("x", api.MaxBytes+1), 0, api.ErrLong)
	refused(t, strings.Repeat("x", api.MaxBytes), 1, api.ErrCommand)
	refused(t, strings.Repeat("x", 1<<22), 0, api.ErrLong)
	plays(t, strings.Repeat("\n", desk.MaxLines), "")
	plays(t, strings.Repeat("\n", desk.MaxLines-1)+"sum", "error 281\n")
	plays(t, strings.Repeat("\n", desk.MaxLines-1)+"sum\n", "error 281\n")
	plays(t, strings.Repeat("sum\n", desk.MaxLines), strings.Repeat("error 281\n", desk.MaxLines))
	refused(t, strings.Repeat("\n", desk.MaxLines)+"sum", 0, api.ErrLong)
	refused(t, strings.Repeat("\n", desk.MaxLines+1), 0, api.ErrLong)
	refused(t, strings.Repeat("x\n", desk.MaxLines+1), 0, api.ErrLong)
	refused(t, strings.Repeat("x\n", desk.MaxLines), 1, api.ErrCommand)
	if desk.MaxLines != 1000 || desk.MaxTranscript != 1<<20 {
		t.Errorf("%d %d", desk.MaxLines, desk.MaxTranscript)
	}
}

// shapes are all commands: their words, and which kinds stand behind these.
var shapes = []struct{ word, kinds string }{
	{"program", ""}, {"bytes", "H"}, {"budget", "NNN"}, {"text", ""}, {"code", ""}, {"sum", ""}, {"idle", ""}, {"longest", "NN"}, {"start", ""},
	{"run", "P*"}, {"end", "P*"}, {"ready", "P*"}, {"choose", "N*"}, {"robin", ""}, {"order", "P*"}, {"form", "P*"}, {"race", "P*"}, {"shows", "P*"},
	{"locks", "P*"}, {"all", "M"}, {"classes", ""}, {"graph", "N"}, {"paths", "N"}, {"bound", "N"}, {"sweep", "NN"}, {"guide", "P*"}, {"source", "P*"},
	{"persist", "P*"}, {"report", "M"}, {"shrink", "M"}, {"witness", "MN"}, {"replay", "H"}, {"linear", "KP*"}, {"check", "M"},
}

// of are words of the kinds, and words that are not.
func of(kind byte) (right, wrong []string) {
	switch kind {
	case 'N':
		return []string{"0", "7", "10", "999999999"}, []string{"1000000000", "-1", "-0", "+5", "007", "00", "1.0", "0x1", "a", "99999999999999999999", "1_0", "1e3"}
	case 'P':
		return []string{"0.0", "12.3", "999999999.999999999"}, []string{"0", "0.", ".0", ".", "0.0.0", "00.0", "0.00", "-1.0", "0.-1", "1000000000.0", "0.1000000000", "0,0", "a.0", "0.a", "+0.0"}
	case 'M':
		return []string{"tree", "sleep", "persist", "dpor"}, []string{"Tree", "trees", "tre", "bound", "1", "register", "pct"}
	case 'K':
		return []string{"register", "counter", "queue", "stack"}, []string{"Register", "stacks", "set", "1", "tree"}
	}
	return []string{"00", "0123456789abcdef", "ff"}, []string{"0", "000", "0g", "g0", "FF", "fF", "-", "0x00", "0-", "."}
}

// isCommand asks whether a line is a command.
func isCommand(t *testing.T, line string, want bool) {
	t.Helper()
	s, at, e := desk.Run(line)
	if want && (e != api.OK || at != 0 || strings.Count(s, "\n") != 1) || !want && (e != api.ErrCommand || at != 1 || s != "") {
		t.Errorf("%q: %q %d %v", line, s, at, e)
	}
}

// 28.2: a line is a command by the number and the kinds of its words.
func TestKinds(t *testing.T) {
	for _, x := range shapes {
		kinds, many := strings.CutSuffix(x.kinds, "*")
		words := []string{x.word}
		for i := range len(kinds) {
			right, wrong := of(kinds[i])
			last := many && i == len(kinds)-1
			isCommand(t, strings.Join(words, " "), last)
			for _, w := range right {
				line := strings.Join(append(words, w), " ")
				isCommand(t, line, i == len(kinds)-1 || many && i == len(kinds)-2)
				if last {
					isCommand(t, line+" "+w+" "+w, true)
					isCommand(t, line+" x", false)
				}
			}
			for _, w := range wrong {
				line := strings.Join(append(words, w), " ")
				isCommand(t, line, false)
				isCommand(t, line+" "+right[0], false)
				if last {
					isCommand(t, strings.Join(append(words, right[0], w), " "), false)
				}
			}
			words = append(words, right[0])
		}
		line := strings.Join(words, " ")
		isCommand(t, line, true)
		if !many {
			for _, w := range []string{"0", "0.0", "tree", "queue", "00", "x", x.word} {
				isCommand(t, line+" "+w, false)
			}
		}
		for _, odd := range []string{line + " ", " " + line, strings.ToUpper(x.word) + line[len(x.word):], "x" + line, line + "\t", line + "\x00"} {
			isCommand(t, odd, false)
		}
	}
	for _, line := range []string{"x", "help", "nothing", "full", "error 1", "ok", "seen", "words", "told", "runs", "budgets 1 1 1", "0", "tree"} {
		isCommand(t, line, false)
	}
}

// 28.2: without a program all commands but program, bytes and budget tell that there is none.
func TestNothing(t *testing.T) {
	for _, x := range shapes {
		kinds, many := strings.CutSuffix(x.kinds, "*")
		line := x.word
		for i := range len(kinds) {
			right, _ := of(kinds[i])
			line += " " + right[0]
		}
		want := "error 281\n"
		switch x.word {
		case "program":
			want = "error 53 0\n"
		case "bytes":
			want = "error 40 0\n"
		case "budget":
			want = "ok\n"
		}
		plays(t, line, want)
		if many {
			plays(t, line+" "+strings.Fields(line)[len(strings.Fields(line))-1], want)
		}
		// a program that is not right is not laid there.
		plays(t, "program\n|scarab\nbytes 00\n"+line, "error 30 0\nerror 40 0\n"+want)
	}
}
