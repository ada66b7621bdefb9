package asm_test

import (
	"math"
	"slices"
	"strings"
	"testing"

	"scarab/api"
	"scarab/asm"
	"scarab/prog"
	"scarab/word"
)

// 5.1: the lines of a program, written out.
func TestPrint(t *testing.T) {
	if s := printed(t, whole()); s != wholeText {
		t.Errorf("%q", s)
	}
	if s := printed(t, api.Prog{Funcs: []api.Func{{Code: []api.Instr{{Op: api.OpEnd}}}}}); s != "scarab\nfunc 0 0\nend\n" {
		t.Errorf("%q", s)
	}
}

// 5.1: the operations of numbers have word's names.
func TestPrintNumbers(t *testing.T) {
	for op := api.OpNeg; op <= api.LastTwo; op++ {
		in, want := api.Instr{Op: op, A: 3, B: 0}, word.Name(op)+" r3 r0"
		if op > api.LastOne {
			in.C, want = 2, want+" r2"
		}
		p := api.Prog{Funcs: []api.Func{{Regs: 4, Code: []api.Instr{in, {Op: api.OpEnd}}}}}
		if s := printed(t, p); s != "scarab\nfunc 0 4\n"+want+"\nend\n" {
			t.Errorf("%q", s)
		}
		parsed(t, "scarab\nfunc 0 4\n"+want+"\nend\n", p)
	}
}

// 5.1: each line has one blank between its words, none elsewhere, and a byte 10 behind it; an instruction's line is
// that of the text.
func TestPrintLines(t *testing.T) {
	for i, p := range programs() {
		s := printed(t, p)
		all := strings.Split(s, "\n")
		if all[len(all)-1] != "" {
			t.Errorf("%d: no byte 10 at the end", i)
		}
		all = all[:len(all)-1]
		for _, line := range all {
			if line == "" || strings.Join(asm.Words(line), " ") != line {
				t.Errorf("%d: %q", i, line)
			}
		}
		// from the end on: a function's code is the end of its lines.
		for f := len(p.Funcs) - 1; f >= 0; f-- {
			for pc := len(p.Funcs[f].Code) - 1; pc >= 0; pc-- {
				line, e := asm.Line(p, f, pc)
				if e != api.OK || line != all[len(all)-1] {
					t.Fatalf("%d: Line {%d %d}: %q, %v, not %q", i, f, pc, line, e, all[len(all)-1])
				}
				all = all[:len(all)-1]
			}
			for !strings.HasPrefix(all[len(all)-1], "func ") {
				all = all[:len(all)-1]
			}
			all = all[:len(all)-1]
		}
	}
}

// 5.1: programs that are not right, places that are not there.
func TestPrintErrors(t *testing.T) {
	falls := whole()
	falls.Funcs[2].Code[0].Op = api.OpYield
	taken := whole()
	taken.Funcs[0].Code[0] = api.Instr{Op: api.OpTaken}
	for i, p := range []api.Prog{{}, falls, taken} {
		if s, e := asm.Print(p); s != "" || e != api.ErrProg {
			t.Errorf("%d: Print: %q, %v", i, s, e)
		}
		for _, x := range []int{-1, 0, 99} {
			if s, e := asm.Line(p, x, x); s != "" || e != api.ErrProg {
				t.Errorf("%d: Line: %q, %v", i, s, e)
			}
		}
	}
	far := []int{math.MinInt, -1, 1 << 32, math.MaxInt}
	for _, x := range append(far, 3) {
		if s, e := asm.Line(whole(), x, 0); s != "" || e != api.ErrArg {
			t.Errorf("function %d: %q, %v", x, s, e)
		}
	}
	for _, x := range append(far, 28) {
		if s, e := asm.Line(whole(), 0, x); s != "" || e != api.ErrArg {
			t.Errorf("place %d: %q, %v", x, s, e)
		}
	}
	if s, e := asm.Line(whole(), 1, 2); s != "" || e != api.ErrArg {
		t.Errorf("behind a code: %q, %v", s, e)
	}
}

// 5.2: words.
func TestWords(t *testing.T) {
	for line, want := range map[string][]string{
		"  a\tb ; c":      {"a", "b"},
		"":                nil,
		" \t ":            nil,
		";":               nil,
		"; a":             nil,
		"a;b c":           {"a"},
		"a ;b;c":          {"a"},
		"a":               {"a"},
		"\ta  b\t\tc":     {"a", "b", "c"},
		"a\nb c\r":        {"a\nb", "c\r"},
		"a\vb\fc d\u00a0": {"a\vb\fc", "d\u00a0"},
		"\x00 \xff\xfe é": {"\x00", "\xff\xfe", "é"},
		"\u2028 \u3000":   {"\u2028", "\u3000"},
		"a:b ,":           {"a:b", ","},
	} {
		if got := asm.Words(line); !slices.Equal(got, want) {
			t.Errorf("Words(%q): %q", line, got)
		}
	}
	long := strings.Repeat("ab ", api.MaxBytes)
	if got := asm.Words(long); len(got) != api.MaxBytes || got[len(got)-1] != "ab" {
		t.Errorf("a long line: %d words", len(got))
	}
	got := asm.Words("a b")
	got[0] = "c"
	if again := asm.Words("a b"); again[0] != "a" {
		t.Error("two answers share their words")
	}
}

// 5.2: numbers.
func TestNumber(t *testing.T) {
	for s, want := range map[string]int64{
		"0": 0, "5": 5, "-1": -1, "10": 10, "999999999": 999999999, "1000000000": 1000000000,
		"9223372036854775807": math.MaxInt64, "-9223372036854775808": math.MinInt64,
	} {
		if x, ok := asm.Number(s); x != want || !ok {
			t.Errorf("Number(%q): %d, %v", s, x, ok)
		}
	}
	for _, s := range []string{
		"", "-0", "+5", "+0", "007", "00", "-01", "-", "--1", "9223372036854775808", "-9223372036854775809",
		"99999999999999999999", " 1", "1 ", "1\n", "0x1", "0xff", "0b1", "0o7", "1_000", "_", "1.", "1e3", "a", "r1", "٣",
		strings.Repeat("1", api.MaxBytes+1), strings.Repeat("0", api.MaxBytes+1),
	} {
		if x, ok := asm.Number(s); x != 0 || ok {
			t.Errorf("Number(%.30q): %d, %v", s, x, ok)
		}
	}
}

// 5.4: there and back.
func TestThereAndBack(t *testing.T) {
	for _, p := range programs() {
		s := printed(t, p)
		if len(s) > api.MaxBytes {
			t.Fatalf("%d bytes", len(s))
		}
		parsed(t, s, p)
	}
}

// 5.4: remarks, blanks and empty lines say nothing.
func TestSaysNothing(t *testing.T) {
	s := "; a program\n\n" + strings.ReplaceAll(wholeText, "\n", " \t;scarab\r\n \t\n;\n")
	s = strings.ReplaceAll(s, " ", "\t  ")
	parsed(t, s, whole())
	parsed(t, strings.TrimSuffix(wholeText, "\n"), whole())
	parsed(t, strings.ReplaceAll(wholeText, "\n", "\n \t"), whole())
	p, _, _ := asm.Parse(s)
	if again := printed(t, p); again != wholeText {
		t.Errorf("%q", again)
	}
}

// 5.4: what is read from any text is right, and Print of it is the same program. The texts are a program's with
// something done to them.
func TestBackAndThere(t *testing.T) {
	read := 0
	look := func(s string) {
		p, e, at := asm.Parse(s)
		if at < 0 || at > 1+strings.Count(s, "\n") || e == api.OK && at != 0 {
			t.Fatalf("%q: %v in %d", s, e, at)
		}
		if e != api.OK {
			if !prog.Same(p, api.Prog{}) {
				t.Fatalf("%q: %v and a program", s, e)
			}
			return
		}
		read++
		if wrong, _ := prog.Check(p); wrong != api.OK {
			t.Fatalf("%q: %v", s, wrong)
		}
		parsed(t, printed(t, p), p)
	}
	for i := range len(wholeText) {
		look(wholeText[:i])
		look(wholeText[i:])
		look(wholeText[:i] + wholeText[i+1:])
		for _, x := range "\n\t ;_-0129@rvlcsfx\r\x00\xff" {
			look(wholeText[:i] + string(x) + wholeText[i+1:])
			look(wholeText[:i] + string(x) + wholeText[i:])
		}
	}
	if read < 500 {
		t.Errorf("only %d were read", read)
	}
}

// 5.5: a line that is left out, or that stands twice, is told, or makes another program.
func TestLineMatters(t *testing.T) {
	for _, p := range programs()[:20] {
		lines := strings.SplitAfter(printed(t, p), "\n")
		for n := range lines[:len(lines)-1] {
			without := strings.Join(slices.Delete(slices.Clone(lines), n, n+1), "")
			twice := strings.Join(slices.Insert(slices.Clone(lines), n, lines[n]), "")
			for _, s := range []string{without, twice} {
				if q, e, _ := asm.Parse(s); e == api.OK && prog.Same(p, q) {
					t.Fatalf("line %d, %q, says nothing in %q", n+1, lines[n], s)
				}
			}
		}
	}
}

// R3: what is handed in stays, answers are new memory, and no two lists of one share any, spare room too.
func TestMemory(t *testing.T) {
	p := whole()
	printed(t, p)
	asm.Line(p, 0, 0)
	if !prog.Same(p, whole()) {
		t.Error("Print changes its program")
	}
	a, _, _ := asm.Parse(wholeText)
	b, _, _ := asm.Parse(wholeText)
	room(a.Vars, api.Var{Init: 77})
	room(a.Chans, 77)
	room(a.Funcs, api.Func{Regs: 77})
	for _, fn := range a.Funcs {
		room(fn.Code, api.Instr{N: 77})
		room(fn.Selects, api.Select{Else: 77})
		for _, s := range fn.Selects {
			room(s.Cases, api.Case{To: 77})
		}
	}
	if !prog.Same(a, whole()) {
		t.Error("two lists of one program share their room")
	}
	clear(a.Vars)
	clear(a.Chans)
	clear(a.Funcs[0].Code)
	clear(a.Funcs[0].Selects[0].Cases)
	clear(a.Funcs)
	if !prog.Same(b, whole()) {
		t.Error("two programs share their lists")
	}
}

// room fills the spare room of a list.
func room[T any](l []T, x T) {
	spare := l[len(l):cap(l)]
	for i := range spare {
		spare[i] = x
	}
}
