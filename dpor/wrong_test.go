package dpor_test

import (
	"slices"
	"testing"

	"scarab/api"
	"scarab/dpor"
	"scarab/prog"
	"scarab/sample"
	"scarab/sched"
)

// budgets are such as are right, at the ends of their ranges, and such as are not.
func budgets() (right, wrong []api.Budget) {
	right = []api.Budget{{}, {Steps: api.MaxSteps}, {Fuel: api.MaxFuel}, {Runs: api.MaxRuns}, {Steps: api.MaxSteps, Fuel: api.MaxFuel, Runs: api.MaxRuns}}
	for _, n := range far {
		wrong = append(wrong, api.Budget{Steps: n, Fuel: 9, Runs: 9}, api.Budget{Steps: 9, Fuel: n, Runs: 9}, api.Budget{Steps: 9, Fuel: 9, Runs: n})
	}
	return right, append(wrong, api.Budget{Steps: api.MaxSteps + 1}, api.Budget{Fuel: api.MaxFuel + 1}, api.Budget{Runs: api.MaxRuns + 1})
}

// refused asks that the searches tell an error, and nothing else.
func refused(t *testing.T, what string, p api.Prog, b api.Budget, want api.Errno) {
	t.Helper()
	l, e := dpor.All(p, b)
	if len(l.All) > 0 || l.Complete || e != want {
		t.Errorf("%s: All %v %v, not %v", what, l, e, want)
	}
	g, e := dpor.Roots(p, b)
	if len(g) > 0 || e != want {
		t.Errorf("%s: Roots %v %v, not %v", what, g, e, want)
	}
}

// odd asks that Races of picks tells an error, and nothing else.
func odd(t *testing.T, what string, p api.Prog, picks []api.Pick, b api.Budget, want api.Errno) {
	t.Helper()
	if l, e := dpor.Races(p, picks, b); len(l) > 0 || e != want {
		t.Errorf("%s: Races %v %v, not %v", what, l, e, want)
	}
}

// 19.1, 19.2, R1: a program that is not right, ahead of all else; then picks that are too many; then the budget.
func TestWrongProgramsAndBudgets(t *testing.T) {
	p := parsed(t, lone)
	bad := prog.Copy(p)
	bad.Funcs[0].Code[0].A = 1
	long := make([]api.Pick, api.MaxSteps+1)
	right, wrong := budgets()
	for _, b := range append(right, wrong...) {
		for _, p := range []api.Prog{{}, bad} {
			refused(t, "no program", p, b, api.ErrProg)
			odd(t, "no program", p, nil, b, api.ErrProg)
			odd(t, "no program, odd picks", p, gos(7), b, api.ErrProg)
			odd(t, "no program, long picks", p, long, b, api.ErrProg)
		}
		odd(t, "long picks", p, long, b, api.ErrLong)
	}
	for _, b := range wrong {
		refused(t, "no budget", p, b, api.ErrBudget)
		odd(t, "no budget", p, nil, b, api.ErrBudget)
		odd(t, "no budget, odd picks", p, gos(7), b, api.ErrBudget)
		odd(t, "no budget, many picks", p, gos(0, 0), b, api.ErrBudget)
	}
	for _, b := range right {
		if _, e := dpor.All(p, b); e != api.OK {
			t.Errorf("All with %v: %v", b, e)
		}
		if _, e := dpor.Roots(p, b); e != api.OK {
			t.Errorf("Roots with %v: %v", b, e)
		}
		if l, e := dpor.Races(p, nil, b); len(l) != api.MaxGos || e != api.OK {
			t.Errorf("Races with %v: %v %v", b, l, e)
		}
	}
}

// 19.2: too many picks, and such as are not ready, wherever they stand.
func TestWrongPicks(t *testing.T) {
	p := parsed(t, pair)
	odd(t, "more than steps", p, gos(0, 0, 1), budget(2, 9), api.ErrLong)
	odd(t, "more than steps, not ready", p, gos(7, 7, 7), budget(2, 9), api.ErrLong)
	odd(t, "not there yet", p, gos(1), plenty, api.ErrPick)
	odd(t, "ended", p, gos(0, 0, 0), plenty, api.ErrPick)
	odd(t, "waits", parsed(t, locked), gos(0, 0, 1), plenty, api.ErrPick)
	odd(t, "no alternative", p, []api.Pick{{Alt: 1}}, plenty, api.ErrPick)
	for _, n := range far {
		odd(t, "far off", p, []api.Pick{{}, {Go: n}}, plenty, api.ErrPick)
		odd(t, "far off", p, []api.Pick{{}, {Go: 1}, {Alt: n}}, plenty, api.ErrPick)
	}
}

// P1: calls of any programs with any picks and budgets end without a panic.
func TestAnything(t *testing.T) {
	for seed := range uint64(200) {
		p := sample.Prog(seed)
		if seed%4 == 0 {
			p.Funcs[0].Code[0].A = int(seed) - 100
		}
		any := sample.Choices(seed, 9)
		picks := []api.Pick{{Go: any[0], Alt: any[1]}, {Go: any[2], Alt: any[3]}, {}}
		b := api.Budget{Steps: any[4], Fuel: any[5], Runs: any[6]}
		for _, b := range []api.Budget{b, budget(9, 9)} {
			dpor.All(p, b)
			dpor.Roots(p, b)
			dpor.Races(p, picks, b)
		}
	}
}

// R3, R6: what is handed in stays as it is, spare room too; answers are new memory, each run's picks too, and the same
// each time.
func TestMemory(t *testing.T) {
	strange := api.Pick{Go: -7, Alt: -7}
	for i, x := range tasks(100) {
		before := prog.Copy(x.p)
		picks, _ := sched.Choose(x.p, sample.Choices(uint64(i), i%9), x.b)
		kept := slices.Clone(picks)
		picks = append(picks, strange, strange)[:len(kept)]
		l, _ := dpor.All(x.p, x.b)
		again, _ := dpor.All(x.p, x.b)
		for n := range l.All {
			spoil(l.All[n].Picks, strange)
			if !slices.EqualFunc(l.All[n+1:], again.All[n+1:], same) {
				t.Errorf("%d: runs share memory", i)
			}
		}
		spoil(l.All, api.Run{Repeat: true})
		calls := func() ([]int, []int) {
			roots, _ := dpor.Roots(x.p, x.b)
			races, _ := dpor.Races(x.p, picks, x.b)
			return roots, races
		}
		g, r := calls()
		g1, r1 := slices.Clone(g), slices.Clone(r)
		spoil(g, -7)
		spoil(r, -7)
		g, r = calls()
		last, _ := dpor.All(x.p, x.b)
		if !slices.Equal(g, g1) || !slices.Equal(r, r1) || !slices.EqualFunc(last.All, again.All, same) || last.Complete != again.Complete {
			t.Errorf("%d: an answer is kept, or is not the same each time", i)
		}
		if !prog.Same(x.p, before) || !slices.Equal(picks, kept) || picks[:len(kept)+2][len(kept)] != strange {
			t.Errorf("%d: a call changes its arguments", i)
		}
	}
}
