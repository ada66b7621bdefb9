package asm_test

import (
	"slices"
	"strings"
	"testing"

	"scarab/api"
	"scarab/asm"
)

// 5.3: the chapter's examples.
func TestParseExamples(t *testing.T) {
	parsed(t, "scarab\nvar 5\nfunc 0 1\nload r0 v0\nend", api.Prog{Vars: []api.Var{{Init: 5}}, Funcs: []api.Func{
		{Regs: 1, Code: []api.Instr{{Op: api.OpLoad}, {Op: api.OpEnd}}},
	}})
	refused(t, "var 1", api.ErrOrder, 1)
	refused(t, "scarab\nfunc 0", api.ErrLine, 2)
	refused(t, "scarab\nfunc 0 1\nload v0 r0", api.ErrWord, 3)
	refused(t, "scarab\nvar 01", api.ErrNumber, 2)
	refused(t, "", api.ErrOrder, 0)
	refused(t, "scarab", api.ErrSize, 0)
}

// 5.3: a program of each kind of line.
func TestParse(t *testing.T) {
	parsed(t, wholeText, whole())
}

// 5.3: a text without a line that has words, one that is too long.
func TestParseLong(t *testing.T) {
	for _, s := range []string{"\n", " ", ";", "\n\n; x\n\t\n", ";scarab"} {
		refused(t, s, api.ErrOrder, 0)
	}
	most := wholeText + ";" + strings.Repeat("x", api.MaxBytes-len(wholeText)-1)
	parsed(t, most, whole())
	refused(t, most+"x", api.ErrLong, 0)
	refused(t, strings.Repeat("x", api.MaxBytes), api.ErrWord, 1)
	refused(t, strings.Repeat("x", api.MaxBytes+1), api.ErrLong, 0)
	refused(t, strings.Repeat("\n", api.MaxBytes), api.ErrOrder, 0)
	refused(t, strings.Repeat("\n", api.MaxBytes+1), api.ErrLong, 0)
	refused(t, strings.Repeat("\n", api.MaxBytes-1)+"x", api.ErrWord, api.MaxBytes)
}

// 5.3: first words that are no kind of line are told ahead of all else, wherever they stand.
func TestParseFirstWord(t *testing.T) {
	lines := strings.Split(strings.TrimSuffix(wholeText, "\n"), "\n")
	for _, first := range []string{"x", "Scarab", "scarab\r", "taken", "END", "r0", "@0", "_", "0", "atomics", "mov", "op", "\x00", "\xff"} {
		for n := range lines {
			refused(t, with(lines, n, first), api.ErrWord, n+1)
			refused(t, with(lines, n, first+" 1 2 3 4 5 6"), api.ErrWord, n+1)
		}
	}
	refused(t, "x\nscarab\nfunc 0 0\nend", api.ErrWord, 1)
	refused(t, wholeText+"x", api.ErrWord, 1+len(lines))
}

// 5.3: which line may stand behind which. In each row: what stands ahead, and which of the kinds may come.
func TestParseOrder(t *testing.T) {
	all := []string{"scarab", "var 1", "atomic 1", "mutex", "chan 1", "func 0 1", "choose _", "choose @0",
		"onsend c0 r0 @0", "onrecv c0 _ @0", "yield", "neg r0 r0", "max r0 r0 r0", "const r0 1", "end", "note r0 1"}
	instructions := all[10:]
	selects := append([]string{"func 0 1", "choose _", "choose @0", "onsend c0 r0 @0", "onrecv c0 _ @0"}, instructions...)
	const main = "scarab\nchan 1\nfunc 0 1\n"
	for _, c := range []struct {
		ahead string
		may   []string
	}{
		{"", []string{"scarab"}},
		{"; scarab\n\n", []string{"scarab"}},
		{"scarab\n", []string{"var 1", "atomic 1", "mutex", "chan 1", "func 0 1"}},
		{"scarab\n; x\n", []string{"var 1", "atomic 1", "mutex", "chan 1", "func 0 1"}},
		{"scarab\nvar 1\n", []string{"var 1", "atomic 1", "mutex", "chan 1", "func 0 1"}},
		{"scarab\natomic 1\n", []string{"var 1", "atomic 1", "mutex", "chan 1", "func 0 1"}},
		{"scarab\nmutex\n", []string{"mutex", "chan 1", "func 0 1"}},
		{"scarab\nvar 1\nmutex\n", []string{"mutex", "chan 1", "func 0 1"}},
		{"scarab\nchan 1\n", []string{"chan 1", "func 0 1"}},
		{"scarab\nmutex\nchan 1\n", []string{"chan 1", "func 0 1"}},
		{main, append([]string{"func 0 1", "choose _", "choose @0"}, instructions...)},
		{main + "choose _\n", selects},
		{main + "choose @0\n\n", selects},
		{main + "choose _\nchoose @0\n", selects},
		{main + "choose _\nonrecv c0 _ @0\nchoose _\nchoose _\n", selects},
		{main + "choose _\nchoose _\nyield\n", append([]string{"func 0 1"}, instructions...)},
		{main + "choose _\nonsend c0 r0 @0\n", selects},
		{main + "choose _\nonrecv c0 _ @0\n", selects},
		{main + "yield\n", append([]string{"func 0 1"}, instructions...)},
		{main + "end\n", append([]string{"func 0 1"}, instructions...)},
		{main + "choose _\nyield\n", append([]string{"func 0 1"}, instructions...)},
		{main + "choose _\nonrecv c0 _ @0\nselect s0\n", append([]string{"func 0 1"}, instructions...)},
		{main + "end\nfunc 0 0\n", append([]string{"func 0 1", "choose _", "choose @0"}, instructions...)},
	} {
		n := 1 + strings.Count(c.ahead, "\n")
		for _, line := range all {
			if slices.Contains(c.may, line) {
				if _, e, at := asm.Parse(c.ahead + line); at != 0 || e == api.ErrOrder {
					t.Errorf("%q behind %q: %v in %d", line, c.ahead, e, at)
				}
				continue
			}
			refused(t, c.ahead+line, api.ErrOrder, n)
			// that is told ahead of what is wrong with its words, and of what comes behind it.
			refused(t, c.ahead+line+" ? ? ? ? ?\n?", api.ErrOrder, n)
		}
	}
}

// 5.3: a choose behind one without cases may stand there: its words are looked at, and behind the last line the program.
func TestParseChooseBehindChoose(t *testing.T) {
	const ahead = "scarab\nchan 1\nfunc 0 1\nchoose _\n"
	refused(t, ahead+"choose", api.ErrLine, 5)
	refused(t, ahead+"choose _ _", api.ErrLine, 5)
	refused(t, ahead+"choose 0", api.ErrWord, 5)
	refused(t, ahead+"choose @x", api.ErrNumber, 5)
	refused(t, ahead+"choose _\nend", api.ErrFunc, 0)
	refused(t, ahead+"choose @0\nonrecv c0 r0 @0\nend", api.ErrFunc, 0)
	refused(t, ahead+"onrecv c0 r0 @0\nchoose _\nchoose _\nonrecv c0 r0 @0\nend", api.ErrFunc, 0)
	refused(t, ahead+"choose _\nend\nchoose _", api.ErrOrder, 7)
	refused(t, ahead+"choose _\nend\nonrecv c0 r0 @0", api.ErrOrder, 7)
	refused(t, "scarab\nchan 1\nchoose _\nchoose _", api.ErrOrder, 3)
}

// 5.3: too few and too many words, told ahead of what is wrong with them.
func TestParseWordCount(t *testing.T) {
	lines := strings.Split(strings.TrimSuffix(wholeText, "\n"), "\n")
	for n, line := range lines {
		words := asm.Words(line)
		refused(t, with(lines, n, line+" 0"), api.ErrLine, n+1)
		refused(t, with(lines, n, words[0]+" ? ? ? ? ?"), api.ErrLine, n+1)
		for k := 1; k < len(words); k++ {
			refused(t, with(lines, n, strings.Join(words[:k], " ")), api.ErrLine, n+1)
			refused(t, with(lines, n, strings.Join(words[:k], " ")+" ; "+words[k]), api.ErrLine, n+1)
		}
	}
}

// 5.3: each operand with another letter, or with a number that is none or out of its range.
func TestParseOperands(t *testing.T) {
	lines := strings.Split(strings.TrimSuffix(wholeText, "\n"), "\n")
	numbers := []string{"", "01", "-0", "+1", "0x1", "1x", "x", "-", "9223372036854775808", "-9223372036854775809", "1.0", "1_0"}
	small := []string{"-1", "-999999999", "1000000000", "9223372036854775807", "-9223372036854775808"}
	for n, line := range lines {
		words := asm.Words(line)
		for k := 1; k < len(words); k++ {
			swap := func(word string) string {
				out := slices.Clone(words)
				out[k] = word
				return with(lines, n, strings.Join(out, " "))
			}
			sign, lacks := signAndLack(words[0], k)
			for _, other := range []string{"r0", "v0", "l0", "c0", "s0", "f0", "@0", "_", "__", "_0", "0", "-1", "R0", "x", "?"} {
				switch {
				case sign == "" || other[:1] == sign || other == "_" && lacks:
				default:
					refused(t, swap(other), api.ErrWord, n+1)
				}
			}
			for _, digits := range numbers {
				if sign+digits != "" {
					refused(t, swap(sign+digits), api.ErrNumber, n+1)
				}
			}
			if anyNumber := sign == "" && words[0] != "chan" && words[0] != "func"; anyNumber {
				parsedLine(t, swap("9223372036854775807"))
				parsedLine(t, swap("-9223372036854775808"))
				refused(t, swap("_"), api.ErrNumber, n+1)
				refused(t, swap("r0"), api.ErrNumber, n+1)
				continue
			}
			for _, digits := range small {
				refused(t, swap(sign+digits), api.ErrNumber, n+1)
			}
			if _, _, at := asm.Parse(swap(sign + "999999999")); at != 0 {
				t.Errorf("%q with 999999999: line %d", line, at)
			}
		}
	}
}

// parsedLine asks that no line of a text is wrong: a start value or a tag may be any number.
func parsedLine(t *testing.T, s string) {
	t.Helper()
	if _, e, at := asm.Parse(s); e != api.OK || at != 0 {
		t.Errorf("%q: %v in %d", s, e, at)
	}
}

// signAndLack is what an operand's word begins with, by the line's first word and the operand's place from 1 on, and
// whether _ may stand there; as the chapters' tables have it.
func signAndLack(first string, k int) (string, bool) {
	signs := map[string]string{
		"var": "n", "atomic": "n", "chan": "n", "func": "nn", "choose": "T", "onsend": "crt", "onrecv": "cRt",
		"const": "rn", "move": "rr", "jump": "t", "if": "rt", "assert": "rn", "load": "rv", "store": "vr",
		"bump": "Rvr", "cas": "rvrr", "await": "vr", "lock": "l", "unlock": "l", "try": "rl", "send": "cr",
		"recv": "RcR", "close": "c", "select": "s", "spawn": "Rfr", "join": "r", "note": "rn",
	}
	switch letter := signs[first][k-1]; letter {
	case 'n':
		return "", false
	case 'R':
		return "r", true
	case 't', 'T':
		return "@", letter == 'T'
	default:
		return string(letter), false
	}
}

// 5.3: of several words the first one that is wrong is told, of several lines too.
func TestParseFirstWrong(t *testing.T) {
	const ahead = "scarab\natomic 0\nfunc 0 1\n"
	refused(t, ahead+"cas r0 v0 r01 _", api.ErrNumber, 4)
	refused(t, ahead+"cas r0 v0 _ r01", api.ErrWord, 4)
	refused(t, ahead+"cas 0 v00 _ r01", api.ErrWord, 4)
	refused(t, ahead+"note r 1x", api.ErrNumber, 4)
	refused(t, ahead+"note x 1x", api.ErrWord, 4)
	refused(t, ahead+"note r01 x\nx\nscarab", api.ErrNumber, 4)
	refused(t, ahead+"yield\nscarab\nx", api.ErrOrder, 5)
	refused(t, ahead+"jump @9\nend 1", api.ErrLine, 5)
	refused(t, "scarab\nfunc 01 _", api.ErrNumber, 2)
	refused(t, "scarab\nfunc 0 _", api.ErrNumber, 2)
	refused(t, "scarab\n\n ;\n\tchan -1", api.ErrNumber, 4)
}

// 5.3: lines that are as they should be, of a program that is not right: its own error, and no line.
func TestParseCheck(t *testing.T) {
	for s, want := range map[string]api.Errno{
		"":                              api.ErrSize,
		"chan 5\nfunc 0 0\nend":         api.ErrCap,
		"chan 999999999\nfunc 0 0\nend": api.ErrCap,
		strings.Repeat("mutex\n", 5) + "func 0 0\nend":                                 api.ErrSize,
		strings.Repeat("var 1\n", 9) + "func 0 0\nend":                                 api.ErrSize,
		strings.Repeat("func 0 0\nend\n", 9):                                           api.ErrSize,
		"func 0 9\nend":                                                                api.ErrFunc,
		"func 1 1\nend":                                                                api.ErrFunc,
		"func 0 0":                                                                     api.ErrFunc,
		"func 0 0\n" + strings.Repeat("end\n", 65):                                     api.ErrFunc,
		"func 0 0\nchoose _\nend":                                                      api.ErrFunc,
		"func 0 0\nchoose _\nonrecv c0 _ @0\nend":                                      api.ErrObj,
		"chan 0\nfunc 0 0\nchoose _\nonrecv c0 r0 @0\nend":                             api.ErrReg,
		"chan 0\nfunc 0 1\nchoose _\nonsend c0 r0 @0\nend":                             api.ErrKind,
		"chan 0\nfunc 0 0\nchoose _\nonrecv c0 _ @1\nend":                              api.ErrTarget,
		"chan 0\nfunc 0 0\nchoose @1\nonrecv c0 _ @0\nend":                             api.ErrTarget,
		"chan 0\nfunc 0 0\nchoose _\n" + strings.Repeat("onrecv c0 _ @0\n", 5) + "end": api.ErrFunc,
		"chan 0\nfunc 0 0\n" + strings.Repeat("choose _\nonrecv c0 _ @0\n", 5) + "end": api.ErrFunc,
		"func 0 0\njump @9":                                                            api.ErrTarget,
		"func 0 0\njoin r0\nend":                                                       api.ErrReg,
		"func 0 1\njoin r999999999\nend":                                               api.ErrReg,
		"func 0 1\nload r0 v0\nend":                                                    api.ErrObj,
		"var 0\nfunc 0 1\nbump r0 v0 r0\nend":                                          api.ErrKind,
		"func 0 2\nspawn _ f0 r1\nend":                                                 api.ErrReg,
		"func 0 2\nspawn _ f1 r0\nend":                                                 api.ErrObj,
		"func 0 0\nyield":                                                              api.ErrFall,
		"func 0 0\nend\nfunc 0 0\nyield":                                               api.ErrFall,
		"func 0 0\nselect s0":                                                          api.ErrObj,
		"mutex\nfunc 0 0\nlock l1\nend":                                                api.ErrObj,
		"chan 1\nfunc 0 1\nsend c1 r0\nend":                                            api.ErrObj,
		"func 0 1\n" + strings.Repeat("yield\n", 5000):                                 api.ErrFunc,
		strings.Repeat("func 0 0\n", 5000):                                             api.ErrSize,
		strings.Repeat("chan 1\n", 5000) + "func 0 0\nend":                             api.ErrSize,
		"func 0 1\nif r0 @999999999\nend":                                              api.ErrTarget,
		"func 0 999999999\nend":                                                        api.ErrFunc,
		"func 0 3\nspawn _ f1 r2\nend\nfunc 2 2\nend":                                  api.ErrReg,
		"atomic 1\nfunc 0 2\ncas r0 v0 r1 r2\nend":                                     api.ErrReg,
	} {
		refused(t, "scarab\n"+s, want, 0)
	}
}
