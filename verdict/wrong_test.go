package verdict_test

import (
	"slices"
	"testing"

	"scarab/api"
	"scarab/prog"
	"scarab/sample"
	"scarab/tree"
	"scarab/verdict"
)

// budgets are such as are right, at the ends of their ranges, and such as are not.
func budgets() (right, wrong []api.Budget) {
	right = []api.Budget{{}, {Steps: api.MaxSteps}, {Fuel: api.MaxFuel}, {Runs: api.MaxRuns}, {Steps: api.MaxSteps, Fuel: api.MaxFuel, Runs: api.MaxRuns}}
	for _, n := range far {
		wrong = append(wrong, api.Budget{Steps: n, Fuel: 9, Runs: 9}, api.Budget{Steps: 9, Fuel: n, Runs: 9}, api.Budget{Steps: 9, Fuel: 9, Runs: n})
	}
	return right, append(wrong, api.Budget{Steps: api.MaxSteps + 1}, api.Budget{Fuel: api.MaxFuel + 1}, api.Budget{Runs: api.MaxRuns + 1})
}

// single asks that Of and Shows tell an error of picks, and nothing else.
func single(t *testing.T, what string, p api.Prog, picks []api.Pick, b api.Budget, want api.Errno) {
	t.Helper()
	if l, e := verdict.Of(p, picks, b); len(l) > 0 || e != want {
		t.Errorf("%s: Of %v %v, not %v", what, l, e, want)
	}
	for _, f := range []api.Found{{}, at(api.KindDeadlock, 0, 0), at(api.KindRace, 0, 0)} {
		if is, e := verdict.Shows(p, picks, f, b); is || e != want {
			t.Errorf("%s: Shows %v %v, not %v", what, is, e, want)
		}
	}
}

// refused asks that Report tells an error of runs, and nothing else.
func refused(t *testing.T, what string, p api.Prog, l []api.Run, b api.Budget, want api.Errno) {
	t.Helper()
	if r, e := verdict.Report(p, l, b); len(r) > 0 || e != want {
		t.Errorf("%s: Report %v %v, not %v", what, r, e, want)
	}
}

// odd asks that all three tell an error of picks, and nothing else.
func odd(t *testing.T, what string, p api.Prog, picks []api.Pick, b api.Budget, want api.Errno) {
	t.Helper()
	single(t, what, p, picks, b, want)
	refused(t, what, p, []api.Run{{Picks: picks}}, b, want)
}

// 23.1, 23.3, R1: a program that is not right, ahead of all else; then picks, or runs, that are too many; then the budget.
func TestWrongProgramsAndBudgets(t *testing.T) {
	p := parsed(t, lone)
	bad := prog.Copy(p)
	bad.Funcs[0].Code[0].A = 1
	long, runs := make([]api.Pick, api.MaxSteps+1), make([]api.Run, api.MaxRuns+1)
	right, wrong := budgets()
	for _, b := range append(right, wrong...) {
		for _, p := range []api.Prog{{}, bad} {
			odd(t, "no program", p, nil, b, api.ErrProg)
			odd(t, "no program, odd picks", p, gos(7), b, api.ErrProg)
			odd(t, "no program, long picks", p, long, b, api.ErrProg)
			refused(t, "no program, no runs", p, nil, b, api.ErrProg)
			refused(t, "no program, many runs", p, runs, b, api.ErrProg)
		}
		single(t, "long picks", p, long, b, api.ErrLong)
		refused(t, "many runs", p, runs, b, api.ErrLong)
	}
	for _, b := range wrong {
		odd(t, "no budget", p, nil, b, api.ErrBudget)
		odd(t, "no budget, odd picks", p, gos(7), b, api.ErrBudget)
		odd(t, "no budget, many picks", p, gos(0, 0), b, api.ErrBudget)
		refused(t, "no budget, no runs", p, nil, b, api.ErrBudget)
	}
	for _, b := range right {
		refused(t, "long picks in a run", p, []api.Run{{Picks: long}}, b, api.ErrLong)
		if _, e := verdict.Of(p, nil, b); e != api.OK {
			t.Errorf("Of with %v: %v", b, e)
		}
		if _, e := verdict.Report(p, make([]api.Run, 2), b); e != api.OK {
			t.Errorf("Report with %v: %v", b, e)
		}
	}
}

// 23.1, 23.3: too many picks, and such as are not ready, wherever they stand.
func TestWrongPicks(t *testing.T) {
	p := parsed(t, pair)
	odd(t, "more than steps", p, gos(0, 0, 1), budget(2, 9), api.ErrLong)
	odd(t, "more than steps, not ready", p, gos(7, 7, 7), budget(2, 9), api.ErrLong)
	odd(t, "not there yet", p, gos(1), plenty, api.ErrPick)
	odd(t, "ended", p, gos(0, 0, 0), plenty, api.ErrPick)
	odd(t, "no alternative", p, []api.Pick{{Alt: 1}}, plenty, api.ErrPick)
	odd(t, "behind a deadlock", parsed(t, twice), gos(0, 0), plenty, api.ErrPick)
	for _, n := range far {
		odd(t, "far off", p, []api.Pick{{}, {Go: n}}, plenty, api.ErrPick)
		odd(t, "far off", p, []api.Pick{{}, {Alt: n}}, plenty, api.ErrPick)
	}
}

// 23.3: of several runs that are wrong the first one is told; nothing that the others show is.
func TestWrongRuns(t *testing.T) {
	p := parsed(t, stores)
	fine, long, not := api.Run{Picks: gos(0, 0, 1)}, api.Run{Picks: gos(0, 0, 1, 1)}, api.Run{Picks: gos(0, 2)}
	b := budget(3, 9)
	refused(t, "long, odd", p, []api.Run{long, not}, b, api.ErrLong)
	refused(t, "odd, long", p, []api.Run{not, long}, b, api.ErrPick)
	refused(t, "fine, odd, long", p, []api.Run{fine, not, long}, b, api.ErrPick)
	refused(t, "fine, long, odd", p, []api.Run{fine, fine, long, not}, b, api.ErrLong)
	refused(t, "odd at the end", p, append(make([]api.Run, api.MaxRuns-1), not), b, api.ErrPick)
	refused(t, "odd, and too many", p, append([]api.Run{not}, make([]api.Run, api.MaxRuns)...), b, api.ErrLong)
	refused(t, "odd, and far too long", p, []api.Run{not, {Picks: make([]api.Pick, api.MaxSteps+1)}}, b, api.ErrPick)
}

// P1: calls of any programs with any picks and budgets end without a panic.
func TestAnything(t *testing.T) {
	for seed := range uint64(200) {
		p := sample.Prog(seed)
		if seed%4 == 0 {
			p.Funcs[0].Code[0].A = int(seed) - 100
		}
		any := sample.Choices(seed, 16)
		picks := []api.Pick{{Go: any[0], Alt: any[1]}, {Go: any[2], Alt: any[3]}, {}}
		f := api.Found{Kind: any[7], A: api.Spot{Func: any[8], PC: any[9]}, B: api.Spot{Func: any[10], PC: any[11]}, Num: any[12], Why: any[13]}
		b := api.Budget{Steps: any[4], Fuel: any[5], Runs: any[6]}
		for _, b := range []api.Budget{b, budget(9, 9)} {
			verdict.Of(p, picks, b)
			verdict.Shows(p, picks, f, b)
			verdict.Report(p, []api.Run{{}, {Picks: picks}}, b)
		}
		verdict.Text(f)
		verdict.Compare(f, api.Found{})
		verdict.Merge([]api.Finding{{Found: f, Picks: picks}, {}}, nil)
	}
}

// R3, R6: what is handed in stays as it is, spare room too; answers are new memory, each finding's picks too, and the
// same each time.
func TestMemory(t *testing.T) {
	strange := api.Pick{Go: -7, Alt: -7}
	told := 0
	for i, x := range tasks(t, 150) {
		before := prog.Copy(x.p)
		all, _ := tree.All(x.p, x.b)
		runs := append([]api.Run{{Picks: x.picks}}, all.All[:min(len(all.All), 20)]...)
		for n := range runs {
			runs[n].Picks = append(runs[n].Picks, strange, strange)[:len(runs[n].Picks)]
		}
		kept := make([][]api.Pick, len(runs))
		for n, r := range runs {
			kept[n] = slices.Clone(r.Picks)
		}
		calls := func() ([]api.Found, []api.Finding) {
			l, _ := verdict.Of(x.p, runs[0].Picks, x.b)
			r, _ := verdict.Report(x.p, runs, x.b)
			return l, r
		}
		l, r := calls()
		l1, r1 := slices.Clone(l), cloned(r)
		spoil(l, api.Found{Kind: -7})
		unshared(t, i, r, r1)
		l, r = calls()
		if !slices.Equal(l, l1) || !slices.EqualFunc(r, r1, same) {
			t.Errorf("%d: an answer is kept, or is not the same each time", i)
		}
		if m := verdict.Merge(r, r1[:0], r1); len(m) > 0 {
			unshared(t, i, m, r1)
			told++
		}
		if !slices.EqualFunc(r, r1, same) {
			t.Errorf("%d: what is merged is changed, or shared", i)
		}
		for n, r := range runs {
			if !slices.Equal(r.Picks, kept[n]) || r.Picks[:len(kept[n])+2][len(kept[n])] != strange {
				t.Errorf("%d: a call changes its picks", i)
			}
		}
		if !prog.Same(x.p, before) {
			t.Errorf("%d: a call changes its program", i)
		}
	}
	if told < 50 {
		t.Errorf("told %d", told)
	}
}

// unshared spoils findings one by one, and asks that those behind stay as they were.
func unshared(t *testing.T, i int, l, want []api.Finding) {
	t.Helper()
	for n := range l {
		if !same(l[n], want[n]) {
			t.Errorf("%d: findings share memory: %v, not %v", i, l[n], want[n])
		}
		spoil(l[n].Picks, api.Pick{Go: -7, Alt: -7})
	}
	spoil(l, api.Finding{Found: api.Found{Kind: -7}})
}
