package sleep_test

import (
	"slices"
	"testing"

	"scarab/api"
	"scarab/prog"
	"scarab/sample"
	"scarab/sched"
	"scarab/sleep"
)

// budgets are such as are right, at the ends of their ranges, and such as are not.
func budgets() (right, wrong []api.Budget) {
	right = []api.Budget{{}, {Steps: api.MaxSteps}, {Fuel: api.MaxFuel}, {Runs: api.MaxRuns}, {Steps: api.MaxSteps, Fuel: api.MaxFuel, Runs: api.MaxRuns}}
	for _, n := range far {
		wrong = append(wrong, api.Budget{Steps: n, Fuel: 9, Runs: 9}, api.Budget{Steps: 9, Fuel: n, Runs: 9}, api.Budget{Steps: 9, Fuel: 9, Runs: n})
	}
	return right, append(wrong, api.Budget{Steps: api.MaxSteps + 1}, api.Budget{Fuel: api.MaxFuel + 1}, api.Budget{Runs: api.MaxRuns + 1})
}

// refused asks that the searches tell an error, and nothing else.
func refused(t *testing.T, what string, p api.Prog, b api.Budget, want api.Errno) {
	t.Helper()
	l, e := sleep.All(p, b)
	if len(l.All) > 0 || l.Complete || e != want {
		t.Errorf("%s: All %v %v, not %v", what, l, e, want)
	}
	n, given, e := sleep.Tally(p, b)
	if n != 0 || given != 0 || e != want {
		t.Errorf("%s: Tally %d %d %v, not %v", what, n, given, e, want)
	}
}

// awake asks that Asleep of picks tells an error, and nothing else.
func awake(t *testing.T, what string, p api.Prog, picks []api.Pick, b api.Budget, want api.Errno) {
	t.Helper()
	if l, e := sleep.Asleep(p, picks, b); len(l) > 0 || e != want {
		t.Errorf("%s: Asleep %v %v, not %v", what, l, e, want)
	}
}

// 17.1, 17.2, R1: a program that is not right, ahead of all else; then picks that are too many; then the budget.
func TestWrongProgramsAndBudgets(t *testing.T) {
	p := parsed(t, lone)
	bad := prog.Copy(p)
	bad.Funcs[0].Code[0].A = 1
	long := make([]api.Pick, api.MaxSteps+1)
	right, wrong := budgets()
	for _, b := range append(right, wrong...) {
		for _, p := range []api.Prog{{}, bad} {
			refused(t, "no program", p, b, api.ErrProg)
			awake(t, "no program", p, nil, b, api.ErrProg)
			awake(t, "no program, odd picks", p, gos(7), b, api.ErrProg)
			awake(t, "no program, long picks", p, long, b, api.ErrProg)
		}
		awake(t, "long picks", p, long, b, api.ErrLong)
	}
	for _, b := range wrong {
		refused(t, "no budget", p, b, api.ErrBudget)
		awake(t, "no budget", p, nil, b, api.ErrBudget)
		awake(t, "no budget, odd picks", p, gos(7), b, api.ErrBudget)
		awake(t, "no budget, many picks", p, gos(0, 0), b, api.ErrBudget)
	}
	for _, b := range right {
		if _, e := sleep.All(p, b); e != api.OK {
			t.Errorf("All with %v: %v", b, e)
		}
		if _, _, e := sleep.Tally(p, b); e != api.OK {
			t.Errorf("Tally with %v: %v", b, e)
		}
		if _, e := sleep.Asleep(p, nil, b); e != api.OK {
			t.Errorf("Asleep with %v: %v", b, e)
		}
	}
}

// 17.2: too many picks, and such as are not ready, wherever they stand.
func TestWrongPicks(t *testing.T) {
	p := parsed(t, pair)
	awake(t, "more than steps", p, gos(0, 0, 1), budget(2, 9), api.ErrLong)
	awake(t, "more than steps, not ready", p, gos(7, 7, 7), budget(2, 9), api.ErrLong)
	awake(t, "not there yet", p, gos(1), plenty, api.ErrPick)
	awake(t, "ended", p, gos(0, 0, 0), plenty, api.ErrPick)
	awake(t, "one is asleep, the next one not ready", p, gos(0, 1, 1), plenty, api.ErrPick)
	awake(t, "no alternative", p, []api.Pick{{Alt: 1}}, plenty, api.ErrPick)
	for _, n := range far {
		awake(t, "far off", p, []api.Pick{{}, {Go: n}}, plenty, api.ErrPick)
		awake(t, "far off", p, []api.Pick{{}, {Go: 1}, {Alt: n}}, plenty, api.ErrPick)
	}
}

// P1: calls of any programs with any picks and budgets end without a panic.
func TestAnything(t *testing.T) {
	for seed := range uint64(200) {
		p := sample.Prog(seed)
		if seed%4 == 0 {
			p.Funcs[0].Code[0].A = int(seed) - 100
		}
		odd := sample.Choices(seed, 9)
		picks := []api.Pick{{Go: odd[0], Alt: odd[1]}, {Go: odd[2], Alt: odd[3]}, {}}
		b := api.Budget{Steps: odd[4], Fuel: odd[5], Runs: odd[6]}
		for _, b := range []api.Budget{b, budget(9, 9)} {
			sleep.All(p, b)
			sleep.Tally(p, b)
			sleep.Asleep(p, picks, b)
		}
	}
}

// R3, R6: what is handed in stays as it is, spare room too; answers are new memory, each run's picks too, and the same
// each time.
func TestMemory(t *testing.T) {
	odd := api.Pick{Go: -7, Alt: -7}
	for i, x := range tasks(100) {
		before := prog.Copy(x.p)
		picks, _ := sched.Choose(x.p, sample.Choices(uint64(i), i%9), x.b)
		kept := slices.Clone(picks)
		picks = append(picks, odd, odd)[:len(kept)]
		l, _ := sleep.All(x.p, x.b)
		again, _ := sleep.All(x.p, x.b)
		for n := range l.All {
			spoil(l.All[n].Picks, odd)
			if !slices.EqualFunc(l.All[n+1:], again.All[n+1:], same) {
				t.Errorf("%d: runs share memory", i)
			}
		}
		spoil(l.All, api.Run{Repeat: true})
		g, _ := sleep.Asleep(x.p, picks, x.b)
		g1 := slices.Clone(g)
		spoil(g, -7)
		g, _ = sleep.Asleep(x.p, picks, x.b)
		last, _ := sleep.All(x.p, x.b)
		if !slices.Equal(g, g1) || !slices.EqualFunc(last.All, again.All, same) || last.Complete != again.Complete {
			t.Errorf("%d: an answer is kept, or is not the same each time", i)
		}
		if !prog.Same(x.p, before) || !slices.Equal(picks, kept) || picks[:len(kept)+2][len(kept)] != odd {
			t.Errorf("%d: a call changes its arguments", i)
		}
	}
}
