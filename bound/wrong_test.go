package bound_test

import (
	"slices"
	"testing"

	"scarab/api"
	"scarab/bound"
	"scarab/prog"
	"scarab/sample"
	"scarab/sched"
)

// budgets are such as are right, at the ends of their ranges, and such as are not.
func budgets() (right, wrong []api.Budget) {
	right = []api.Budget{{}, {Steps: api.MaxSteps}, {Fuel: api.MaxFuel}, {Runs: api.MaxRuns}, {Steps: api.MaxSteps, Fuel: api.MaxFuel, Runs: api.MaxRuns}}
	for _, n := range far {
		wrong = append(wrong, api.Budget{Steps: n, Fuel: 9, Runs: 9}, api.Budget{Steps: 9, Fuel: n, Runs: 9}, api.Budget{Steps: 9, Fuel: 9, Runs: n})
	}
	return right, append(wrong, api.Budget{Steps: api.MaxSteps + 1}, api.Budget{Fuel: api.MaxFuel + 1}, api.Budget{Runs: api.MaxRuns + 1})
}

// refused asks that the searches tell an error, and nothing else.
func refused(t *testing.T, what string, p api.Prog, k int, b api.Budget, want api.Errno) {
	t.Helper()
	l, e := bound.All(p, k, b)
	if len(l.All) > 0 || l.Complete || e != want {
		t.Errorf("%s: All %v %v, not %v", what, l, e, want)
	}
	s, is, e := bound.Ends(p, k, b)
	if len(s) > 0 || is || e != want {
		t.Errorf("%s: Ends %v %v %v, not %v", what, s, is, e, want)
	}
	n, is, e := bound.Grow(p, k, b)
	if len(n) > 0 || is || e != want {
		t.Errorf("%s: Grow %v %v %v, not %v", what, n, is, e, want)
	}
}

// odd asks that Count and Where of picks tell an error, and nothing else.
func odd(t *testing.T, what string, p api.Prog, picks []api.Pick, b api.Budget, want api.Errno) {
	t.Helper()
	if n, e := bound.Count(p, picks, b); n != 0 || e != want {
		t.Errorf("%s: Count %v %v, not %v", what, n, e, want)
	}
	if l, e := bound.Where(p, picks, b); len(l) > 0 || e != want {
		t.Errorf("%s: Where %v %v, not %v", what, l, e, want)
	}
}

// 20.1, 20.2, 20.3, R1: a program that is not right, ahead of all else; then a bound, or picks that are too many; then the
// budget.
func TestWrongProgramsAndBudgets(t *testing.T) {
	p := parsed(t, lone)
	bad := prog.Copy(p)
	bad.Funcs[0].Code[0].A = 1
	long := make([]api.Pick, api.MaxSteps+1)
	right, wrong := budgets()
	for _, b := range append(right, wrong...) {
		for _, p := range []api.Prog{{}, bad} {
			for _, k := range append([]int{0, 16, 17, api.MaxSteps, api.MaxSteps + 1}, far...) {
				refused(t, "no program", p, k, b, api.ErrProg)
			}
			odd(t, "no program", p, nil, b, api.ErrProg)
			odd(t, "no program, odd picks", p, gos(7), b, api.ErrProg)
			odd(t, "no program, long picks", p, long, b, api.ErrProg)
		}
		for _, k := range append([]int{api.MaxSteps + 1}, far...) {
			refused(t, "no bound", p, k, b, api.ErrArg)
		}
		odd(t, "long picks", p, long, b, api.ErrLong)
	}
	for _, b := range wrong {
		for _, k := range []int{0, 1, 16} {
			refused(t, "no budget", p, k, b, api.ErrBudget)
		}
		odd(t, "no budget", p, nil, b, api.ErrBudget)
		odd(t, "no budget, odd picks", p, gos(7), b, api.ErrBudget)
		odd(t, "no budget, many picks", p, gos(0, 0), b, api.ErrBudget)
	}
	for _, b := range right {
		for _, k := range []int{0, 16, 17, api.MaxSteps} {
			if _, e := bound.All(p, k, b); e != api.OK {
				t.Errorf("All with %v: %v", b, e)
			}
			if _, _, e := bound.Ends(p, k, b); e != api.OK {
				t.Errorf("Ends with %v: %v", b, e)
			}
		}
		if l, _, e := bound.Grow(p, 16, b); len(l) != 17 || e != api.OK {
			t.Errorf("Grow with %v: %v %v", b, l, e)
		}
		if _, e := bound.Count(p, nil, b); e != api.OK {
			t.Errorf("Count with %v: %v", b, e)
		}
	}
}

// 20.3: Grow goes up to 16, the others further on, whatever the budget is.
func TestGrowsTooFar(t *testing.T) {
	p := parsed(t, lone)
	right, wrong := budgets()
	for _, b := range append(right, wrong...) {
		for _, most := range []int{-1, 17, 18, api.MaxSteps} {
			if l, is, e := bound.Grow(p, most, b); len(l) > 0 || is || e != api.ErrArg {
				t.Errorf("%d with %v: %v %v %v", most, b, l, is, e)
			}
		}
	}
	for _, b := range wrong {
		if l, e := bound.All(p, 17, b); len(l.All) > 0 || e != api.ErrBudget {
			t.Errorf("All: %v %v", l, e)
		}
	}
}

// 20.1: too many picks, and such as are not ready, wherever they stand.
func TestWrongPicks(t *testing.T) {
	p := parsed(t, pair)
	odd(t, "more than steps", p, gos(0, 0, 1), budget(2, 9), api.ErrLong)
	odd(t, "more than steps, not ready", p, gos(7, 7, 7), budget(2, 9), api.ErrLong)
	odd(t, "not there yet", p, gos(1), plenty, api.ErrPick)
	odd(t, "ended", p, gos(0, 0, 0), plenty, api.ErrPick)
	odd(t, "a preemption, then not ready", p, gos(0, 1, 1), plenty, api.ErrPick)
	odd(t, "no alternative", p, []api.Pick{{Alt: 1}}, plenty, api.ErrPick)
	for _, n := range far {
		odd(t, "far off", p, []api.Pick{{}, {Go: n}}, plenty, api.ErrPick)
		odd(t, "far off", p, []api.Pick{{}, {Go: 1}, {Alt: n}}, plenty, api.ErrPick)
	}
}

// P1: calls of any programs with any picks, bounds and budgets end without a panic.
func TestAnything(t *testing.T) {
	for seed := range uint64(200) {
		p := sample.Prog(seed)
		if seed%4 == 0 {
			p.Funcs[0].Code[0].A = int(seed) - 100
		}
		any := sample.Choices(seed, 9)
		picks := []api.Pick{{Go: any[0], Alt: any[1]}, {Go: any[2], Alt: any[3]}, {}}
		b := api.Budget{Steps: any[4], Fuel: any[5], Runs: any[6]}
		for _, b := range []api.Budget{b, budget(9, 9)} {
			for _, k := range []int{any[7], int(seed % 20)} {
				bound.All(p, k, b)
				bound.Ends(p, k, b)
				bound.Grow(p, k, b)
			}
			bound.Count(p, picks, b)
			bound.Where(p, picks, b)
		}
	}
}

// R3, R6: what is handed in stays as it is, spare room too; answers are new memory, each run's picks too, and the same
// each time.
func TestMemory(t *testing.T) {
	strange := api.Pick{Go: -7, Alt: -7}
	for i, x := range tasks(100) {
		before := prog.Copy(x.p)
		picks, _ := sched.Choose(x.p, sample.Choices(uint64(i), i%9), x.b)
		kept := slices.Clone(picks)
		picks = append(picks, strange, strange)[:len(kept)]
		k := i % 5
		l, _ := bound.All(x.p, k, x.b)
		again, _ := bound.All(x.p, k, x.b)
		for n := range l.All {
			spoil(l.All[n].Picks, strange)
			if !slices.EqualFunc(l.All[n+1:], again.All[n+1:], same) {
				t.Errorf("%d: runs share memory", i)
			}
		}
		spoil(l.All, api.Run{Repeat: true})
		calls := func() ([]int, []api.State, []int) {
			w, _ := bound.Where(x.p, picks, x.b)
			s, _, _ := bound.Ends(x.p, k, x.b)
			g, _, _ := bound.Grow(x.p, k, x.b)
			return w, s, g
		}
		w, s, g := calls()
		w1, s1, g1 := slices.Clone(w), slices.Clone(s), slices.Clone(g)
		spoil(w, -7)
		spoil(s, api.State{Count: -7})
		spoil(g, -7)
		w, s, g = calls()
		last, _ := bound.All(x.p, k, x.b)
		if !slices.Equal(w, w1) || !slices.Equal(s, s1) || !slices.Equal(g, g1) || !slices.EqualFunc(last.All, again.All, same) || last.Complete != again.Complete {
			t.Errorf("%d: an answer is kept, or is not the same each time", i)
		}
		if !prog.Same(x.p, before) || !slices.Equal(picks, kept) || picks[:len(kept)+2][len(kept)] != strange {
			t.Errorf("%d: a call changes its arguments", i)
		}
	}
}
