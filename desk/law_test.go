package desk_test

import (
	"bytes"
	"encoding/hex"
	"fmt"
	"slices"
	"strings"
	"testing"

	"scarab/api"
	"scarab/asm"
	"scarab/canon"
	"scarab/code"
	"scarab/desk"
	"scarab/prog"
	"scarab/sample"
	"scarab/sched"
	"scarab/shrink"
	"scarab/tree"
)

// small are sampled programs all of whose schedules can be gone through one by one.
func small(t *testing.T, n uint64) []task {
	t.Helper()
	var l []task
	for _, x := range tasks(t, n) {
		x.b = api.Budget{Steps: 14, Fuel: 20, Runs: 3000}
		many := 0
		if schedules(x.p, x.b, func([]api.Pick, api.Trace) bool { many++; return many < 3000 }) {
			l = append(l, x)
		}
	}
	return l
}

// 28.4, P4: where Check says Complete, something is found just if some legal schedule shows it, by each mode.
func TestFoundJustIfThere(t *testing.T) {
	var kinds [api.KindRace + 1]int
	complete, nothing := map[int]int{}, 0
	for i, x := range small(t, 400) {
		var all []api.Found
		schedules(x.p, x.b, func(_ []api.Pick, run api.Trace) bool {
			all = append(all, shown(t, x.p, run)...)
			return true
		})
		want := unlike(all)
		for mode := range modes {
			r := checked(t, x.p, mode, x.b)
			if r.Verdict != api.Complete {
				continue
			}
			complete[mode]++
			if got := found(r.Findings); !slices.Equal(got, want) {
				t.Errorf("%d: mode %d: %v, not %v", i, mode, got, want)
			}
		}
		for _, f := range want {
			kinds[f.Kind]++
		}
		if len(want) == 0 {
			nothing++
		}
	}
	if min(nothing, slices.Min(kinds[1:])) < 5 || len(complete) != 4 || complete[1] < 50 {
		t.Errorf("told %v, nothing %d, complete %v", kinds, nothing, complete)
	}
}

// 28.5, P5: whatever the verdict, each finding's picks are legal, show it, and are least.
func TestNoFalseAlarm(t *testing.T) {
	told := map[int]int{}
	for i, x := range tasks(t, 200) {
		for mode := range modes {
			r := checked(t, x.p, mode, x.b)
			for _, f := range r.Findings {
				told[r.Verdict]++
				run, e, at := sched.Run(x.p, f.Picks, x.b)
				if e != api.OK {
					t.Errorf("%d: mode %d: %v: %v at %d", i, mode, f, e, at)
				}
				if !slices.Contains(shown(t, x.p, run), f.Found) {
					t.Errorf("%d: mode %d: %v is not shown", i, mode, f)
				}
				if is, e := shrink.Least(x.p, f.Picks, f.Found, x.b); !is || e != api.OK {
					t.Errorf("%d: mode %d: %v is not least: %v", i, mode, f, e)
				}
			}
		}
	}
	if told[api.Complete] < 100 || told[api.Exceeded] < 100 {
		t.Errorf("told %v", told)
	}
}

// P2: where Seen says complete, each maximal schedule is equivalent to one of the runs that are no repeats.
func TestEveryClass(t *testing.T) {
	complete := map[int]int{}
	for i, x := range small(t, 200) {
		want := map[string]struct{}{}
		schedules(x.p, x.b, func(picks []api.Pick, run api.Trace) bool {
			if is, _ := sched.Maximal(x.p, picks, x.b); is {
				key, _ := canon.Key(run.Events)
				want[key] = struct{}{}
			}
			return true
		})
		for mode := range modes {
			runs, e := desk.Seen(x.p, mode, x.b)
			if e != api.OK {
				t.Fatal(e)
			}
			if !runs.Complete {
				continue
			}
			complete[mode]++
			keys, e := tree.Keys(x.p, slices.DeleteFunc(runs.All, func(r api.Run) bool { return r.Repeat }), x.b)
			if e != api.OK || len(keys) != len(want) {
				t.Errorf("%d: mode %d: %d classes, not %d, %v", i, mode, len(keys), len(want), e)
			}
			for _, key := range keys {
				if _, there := want[key]; !there {
					t.Errorf("%d: mode %d: no maximal schedule has the key %q", i, mode, key)
				}
			}
		}
	}
	if len(complete) != 4 || complete[1] < 30 {
		t.Errorf("complete %v", complete)
	}
}

// anyScript is a script that is right: programs, budgets, and any commands.
func anyScript(seed uint64) string {
	var b strings.Builder
	for k, n := range sample.Choices(seed, 14) {
		x := n & 0xffffff
		switch shape := shapes[x%len(shapes)]; {
		case k%5 == 1:
			p := sample.Small(uint64(x))
			text, _ := asm.Print(p)
			if x%3 == 0 {
				text = text[:len(text)/2]
			}
			b.WriteString(laid(text))
		case k%5 == 2:
			fmt.Fprintf(&b, "budget %d %d %d\n", x%14, x%300, x%50)
		case k%5 == 3 && x%2 == 0:
			b.WriteString("# note\n\n")
		default:
			b.WriteString(shape.word)
			for _, kind := range []byte(strings.TrimSuffix(shape.kinds, "*")) {
				right, _ := of(kind)
				b.WriteString(" " + right[x>>8%len(right)])
			}
			b.WriteString("\n")
		}
	}
	return b.String()
}

// 28.6: the transcript of a script's beginning, up to the end of a line behind which no program line comes, is a beginning
// of the script's.
func TestBeginnings(t *testing.T) {
	told := 0
	for seed := range uint64(40) {
		script := anyScript(seed)
		all := run(t, script)
		told += len(all)
		for at := range len(script) {
			if script[at] != '\n' || at+1 < len(script) && script[at+1] == '|' {
				continue
			}
			for _, begin := range []string{script[:at], script[:at+1]} {
				if s := run(t, begin); !strings.HasPrefix(all, s) {
					t.Errorf("%d: %q tells %q, which does not begin %q", seed, begin, s, all)
				}
			}
		}
	}
	if told < 2000 {
		t.Errorf("told %d", told)
	}
}

// P9: what code tells is laid again by bytes, what text tells by program: the same program.
func TestThereAndBack(t *testing.T) {
	for i, x := range tasks(t, 100) {
		text, _ := asm.Print(x.p)
		first := run(t, laid(text)+"code\nsum")
		line, rest, _ := strings.Cut(first, "\n")
		word, _, _ := strings.Cut(strings.TrimPrefix(rest, "code "), "\n")
		b, err := hex.DecodeString(word)
		if err != nil {
			t.Fatal(err)
		}
		if p, e, _ := code.Decode(b); e != api.OK || !prog.Same(p, x.p) {
			t.Errorf("%d: another program, %v", i, e)
		}
		want := first + fmt.Sprintf("%q\n", text)
		if s := run(t, "bytes "+word+"\ncode\nsum\ntext"); s != want || !strings.HasPrefix(line, "program ") {
			t.Errorf("%d: %q, not %q", i, s, want)
		}
	}
}

// P9: what witness tells is replayed, behind whatever else was done, with as many events as shrink tells.
func TestWitnesses(t *testing.T) {
	played := 0
	for i, x := range tasks(t, 60) {
		text, _ := asm.Print(x.p)
		head := laid(text) + line("budget", x.b.Steps, x.b.Fuel, x.b.Runs) + "\n"
		for n, f := range checked(t, x.p, api.ModeDpor, x.b).Findings {
			if n > 2 {
				break
			}
			s := strings.TrimSuffix(run(t, head+line("witness dpor", n)), "\n")
			word := s[strings.LastIndex(s, " ")+1:]
			again := run(t, "budget 1 1 1\n"+laid(lone)+laid(text)+"replay "+word)
			if want := fmt.Sprintf("\nreplay %d\n", len(f.Picks)); !strings.HasSuffix(again, want) {
				t.Errorf("%d: %q, not %q", i, again, want)
			}
			if s := run(t, laid("scarab\nfunc 0 0\nend")+"replay "+word); !strings.HasSuffix(s, "\nerror 270\n") {
				t.Errorf("%d: of another program %q", i, s)
			}
			played++
		}
	}
	if played < 40 {
		t.Errorf("played %d", played)
	}
}

// P1: calls with anything end without a panic.
func TestAnything(t *testing.T) {
	for seed := range uint64(300) {
		any := sample.Choices(seed, 60)
		var raw []byte
		for _, n := range any {
			raw = append(raw, byte(n), byte(n>>8))
		}
		p := sample.Prog(seed)
		b := encoded(t, p)
		b[any[0]&0xffff%len(b)] ^= byte(seed)
		if seed%4 == 0 {
			p.Funcs[0].Code[0].A = int(seed) - 100
		}
		u := api.Budget{Steps: any[1], Fuel: any[2], Runs: any[3]}
		for _, u := range []api.Budget{u, {Steps: 6, Fuel: 9, Runs: 20}} {
			for mode := -1; mode < 6; mode++ {
				desk.Check(b, mode, u)
				desk.Check(raw, mode, u)
				desk.Seen(p, mode, u)
			}
			desk.Check(b, any[4], u)
		}
		desk.Words(string(raw))
		desk.Told(string(raw))
		desk.Run(string(raw))
		desk.Run("program\n|" + string(raw))
		desk.Run(laid(lone) + "replay " + hex.EncodeToString(raw) + "\nbytes " + hex.EncodeToString(raw))
	}
}

// R3, R6: bytes stay as they are, spare room too; answers are new memory, and the same each time.
func TestMemory(t *testing.T) {
	strange := api.Pick{Go: -7, Alt: -7}
	for i, x := range tasks(t, 40) {
		raw, before := encoded(t, x.p), prog.Copy(x.p)
		b := append(slices.Clone(raw), 77, 77)[:len(raw)]
		for mode := range modes {
			want, wantRuns := checked(t, x.p, mode, x.b), explore(mode, x.p, x.b)
			for range 2 {
				r, e := desk.Check(b, mode, x.b)
				if e != api.OK || r.Verdict != want.Verdict || r.Runs != want.Runs || !slices.EqualFunc(r.Findings, want.Findings, same) {
					t.Errorf("%d: %v %v, not %v", i, r, e, want)
				}
				for n, f := range r.Findings {
					spoil(f.Picks, strange)
					if !slices.EqualFunc(r.Findings[n+1:], want.Findings[n+1:], same) {
						t.Errorf("%d: findings share memory", i)
					}
				}
				spoil(r.Findings, api.Finding{})
				runs, e := desk.Seen(x.p, mode, x.b)
				if e != api.OK || !slices.EqualFunc(runs.All, wantRuns.All, sameRun) {
					t.Errorf("%d: %v %v, not %v", i, runs, e, wantRuns)
				}
				for n, r := range runs.All {
					spoil(r.Picks, strange)
					if n+1 < len(runs.All) && !sameRun(runs.All[n+1], wantRuns.All[n+1]) {
						t.Errorf("%d: runs share memory", i)
					}
				}
				spoil(runs.All, api.Run{})
			}
		}
		if !bytes.Equal(b, raw) || b[:len(b)+1][len(b)] != 77 || !prog.Same(x.p, before) {
			t.Errorf("%d: a call changes its arguments", i)
		}
	}
	words, _ := desk.Words("a b c")
	spoil(words, "x")
	if again, ok := desk.Words("a b c"); !ok || !slices.Equal(again, []string{"a", "b", "c"}) {
		t.Errorf("%q", again)
	}
}
