package desk_test

import (
	"math"
	"slices"
	"strings"
	"testing"

	"scarab/api"
	"scarab/asm"
	"scarab/code"
	"scarab/desk"
	"scarab/race"
	"scarab/sample"
	"scarab/sched"
	"scarab/step"
)

// far are numbers that are out of all ranges.
var far = []int{math.MinInt, math.MinInt32, -2, -1, 1 << 17, 1 << 32, math.MaxInt - 1, math.MaxInt}

// plenty is a budget that is enough for all small programs that end.
var plenty = api.Budget{Steps: 40, Fuel: 50, Runs: 1000}

// modes are all of them, with their words.
var modes = map[int]string{api.ModeTree: "tree", api.ModeSleep: "sleep", api.ModePersist: "persist", api.ModeDpor: "dpor"}

// Programs that are gone through often.
const (
	// one goroutine, one step.
	lone = "scarab\nfunc 0 0\nyield\nend\n"
	// main spawns one that yields, and yields itself.
	pair = "scarab\nfunc 0 0\nspawn _ f1 r0\nyield\nend\nfunc 0 0\nyield\nend\n"
	// main spawns one, and both store to one plain variable.
	stores = "scarab\nvar 0\nfunc 0 1\nspawn _ f1 r0\nstore v0 r0\nend\nfunc 0 1\nstore v0 r0\nend\n"
	// main yields for ever.
	loops = "scarab\nfunc 0 0\nyield\njump @0\n"
	// main locks a lock twice.
	twice = "scarab\nmutex\nfunc 0 0\nlock l0\nlock l0\nend\n"
	// two take two locks, each first the other one's second.
	crossed = "scarab\nmutex\nmutex\nfunc 0 0\nspawn _ f1 r0\nlock l0\nlock l1\nunlock l1\nunlock l0\nend\n" +
		"func 0 0\nlock l1\nlock l0\nunlock l0\nunlock l1\nend\n"
)

// laid is a script that lays the program of a text on the desk.
func laid(text string) string {
	return "program\n|" + strings.ReplaceAll(strings.TrimSuffix(text, "\n"), "\n", "\n|") + "\n"
}

// run is the transcript of a script that is right.
func run(t *testing.T, script string) string {
	t.Helper()
	s, at, e := desk.Run(script)
	if e != api.OK || at != 0 {
		t.Fatalf("%q: %d %v", script, at, e)
	}
	return s
}

// tells asks for the lines that commands tell of the program of a text, behind the one that it is laid.
func tells(t *testing.T, text string, pairs ...string) {
	t.Helper()
	var script, want strings.Builder
	script.WriteString(laid(text))
	for i := 0; i < len(pairs); i += 2 {
		script.WriteString(pairs[i] + "\n")
		want.WriteString(pairs[i+1] + "\n")
	}
	_, got, _ := strings.Cut(run(t, script.String()), "\n")
	if got == want.String() {
		return
	}
	lines := strings.Split(got, "\n")
	for i, line := range strings.Split(want.String(), "\n") {
		if i >= len(lines) || lines[i] != line {
			t.Errorf("%s: line %d of %q, not %q", pairs[min(2*i, len(pairs)-2)], i, lines[i:], line)
			return
		}
	}
	t.Errorf("more is told: %q", got)
}

// parsed is the program of a text.
func parsed(t *testing.T, text string) api.Prog {
	t.Helper()
	p, e, line := asm.Parse(text)
	if e != api.OK {
		t.Fatalf("%v in line %d of %s", e, line, text)
	}
	return p
}

// encoded are the bytes of a right program.
func encoded(t *testing.T, p api.Prog) []byte {
	t.Helper()
	b, e := code.Encode(p)
	if e != api.OK {
		t.Fatal(e)
	}
	return b
}

// checked is what Check says of a program.
func checked(t *testing.T, p api.Prog, mode int, b api.Budget) api.Result {
	t.Helper()
	r, e := desk.Check(encoded(t, p), mode, b)
	if e != api.OK {
		t.Fatalf("mode %d: %v", mode, e)
	}
	return r
}

// gos are picks of goroutines, each by its alternative 0.
func gos(l ...int) []api.Pick {
	var picks []api.Pick
	for _, g := range l {
		picks = append(picks, api.Pick{Go: g})
	}
	return picks
}

// shown is what a run shows, by the words of chapter 23.
func shown(t *testing.T, p api.Prog, x api.Trace) []api.Found {
	t.Helper()
	var some, live []api.Found
	spun := 0
	for _, it := range x.End.Gos {
		at := api.Spot{Func: it.Func, PC: it.PC}
		switch {
		case it.Status == api.GoFailed && it.Why == api.WhyAssert:
			some = append(some, api.Found{Kind: api.KindAssert, A: at})
		case it.Status == api.GoFailed:
			some = append(some, api.Found{Kind: api.KindFault, A: at, Why: it.Why})
		case it.Status == api.GoSpun:
			spun++
		case it.Status == api.GoLive || it.Status == api.GoWait:
			live = append(live, api.Found{Kind: api.KindLeak, A: at})
		}
	}
	ready, e := step.Ready(p, x.End)
	if e != api.OK {
		t.Fatal(e)
	}
	if main := x.End.Gos[0]; len(ready) == 0 && spun == 0 {
		if main.Status == api.GoLive || main.Status == api.GoWait {
			live = []api.Found{{Kind: api.KindDeadlock, A: live[0].A}}
		}
		some = append(some, live...)
	}
	races, e := race.Races(p, x.Events)
	if e != api.OK {
		t.Fatal(e)
	}
	return append(some, races...)
}

// schedules hands out each legal schedule of a program that has at most some steps, and what it does, as long as it is
// asked for more; it tells whether none of them could have gone on.
func schedules(p api.Prog, b api.Budget, see func(picks []api.Pick, x api.Trace) bool) (whole bool) {
	var behind func(picks []api.Pick, x api.Trace) (bool, bool)
	behind = func(picks []api.Pick, x api.Trace) (more, whole bool) {
		if !see(picks, x) {
			return false, false
		}
		ready, _ := step.Ready(p, x.End)
		if len(ready) > 0 && len(picks) == b.Steps {
			return true, false
		}
		whole = true
		for _, pick := range ready {
			s, event, _ := step.Do(p, x.End, pick, b.Fuel)
			more, all := behind(append(slices.Clone(picks), pick), api.Trace{Events: append(slices.Clone(x.Events), event), End: s})
			whole = whole && all
			if !more {
				return false, false
			}
		}
		return true, whole
	}
	start, _, _ := sched.Run(p, nil, b)
	_, whole = behind(nil, start)
	return whole
}

// unlike are things that were found in order, each once.
func unlike(l []api.Found) []api.Found {
	fields := func(f api.Found) []int {
		return []int{f.Kind, f.Num, f.A.Func, f.A.PC, f.B.Func, f.B.PC, f.Why}
	}
	l = slices.Clone(l)
	slices.SortFunc(l, func(a, b api.Found) int { return slices.Compare(fields(a), fields(b)) })
	return slices.Compact(l)
}

// found are the things that findings have found.
func found(l []api.Finding) []api.Found {
	var some []api.Found
	for _, f := range l {
		some = append(some, f.Found)
	}
	return some
}

// same tells whether two findings are.
func same(a, b api.Finding) bool { return a.Found == b.Found && slices.Equal(a.Picks, b.Picks) }

// task is a program, picks of it, and a budget.
type task struct {
	p     api.Prog
	picks []api.Pick
	b     api.Budget
}

// tasks are sampled programs, with picks and all kinds of budgets.
func tasks(t *testing.T, n uint64) []task {
	t.Helper()
	var l []task
	for seed := range n {
		p := sample.Small(seed)
		switch seed % 8 {
		case 3:
			p = sample.Prog(seed)
		case 1, 5:
			p = sample.Racy(seed)
		}
		b := api.Budget{Steps: int(seed % 13), Fuel: int(seed * 7 % 31), Runs: int(seed * 13 % 101)}
		if seed%3 == 0 {
			b = api.Budget{Steps: 20, Fuel: 30, Runs: 400}
		}
		picks, e := sched.Choose(p, sample.Choices(seed, int(seed*5%31)), b)
		if e != api.OK {
			t.Fatal(e)
		}
		l = append(l, task{p, picks, b})
	}
	return l
}

// spoil makes all members of a list, and its spare room, something else.
func spoil[T any](l []T, odd T) {
	l = l[:cap(l)]
	for i := range l {
		l[i] = odd
	}
}
