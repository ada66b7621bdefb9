package pct_test

import (
	"slices"
	"testing"

	"scarab/api"
	"scarab/pct"
	"scarab/prog"
	"scarab/sample"
	"scarab/sched"
)

// budgets are such as are right, at the ends of their ranges, and such as are not.
func budgets() (right, wrong []api.Budget) {
	right = []api.Budget{{}, {Steps: api.MaxSteps}, {Fuel: api.MaxFuel}, {Runs: api.MaxRuns}, {Steps: api.MaxSteps, Fuel: api.MaxFuel, Runs: api.MaxRuns}}
	for _, n := range far {
		wrong = append(wrong, api.Budget{Steps: n, Fuel: 9, Runs: 9}, api.Budget{Steps: 9, Fuel: n, Runs: 9}, api.Budget{Steps: 9, Fuel: 9, Runs: n})
	}
	return right, append(wrong, api.Budget{Steps: api.MaxSteps + 1}, api.Budget{Fuel: api.MaxFuel + 1}, api.Budget{Runs: api.MaxRuns + 1})
}

// noRun asks that Run tells an error, and nothing else.
func noRun(t *testing.T, what string, p api.Prog, order, changes []int, b api.Budget, want api.Errno) {
	t.Helper()
	if l, e := pct.Run(p, order, changes, b); len(l) > 0 || e != want {
		t.Errorf("%s: Run %v %v, not %v", what, l, e, want)
	}
}

// noGuide asks that Guide tells an error, and nothing else.
func noGuide(t *testing.T, what string, p api.Prog, picks []api.Pick, b api.Budget, want api.Errno) {
	t.Helper()
	if l, e := pct.Guide(p, picks, b); len(l) > 0 || e != want {
		t.Errorf("%s: Guide %v %v, not %v", what, l, e, want)
	}
}

// noSweep asks that Sweep and Depth tell an error, and nothing else.
func noSweep(t *testing.T, what string, p api.Prog, n, d int, picks []api.Pick, b api.Budget, want api.Errno) {
	t.Helper()
	if l, e := pct.Sweep(p, n, d, b); (len(l.All) > 0 || l.Complete || e != want) && len(picks) <= api.MaxSteps {
		t.Errorf("%s: Sweep %v %v, not %v", what, l, e, want)
	}
	if d, e := pct.Depth(p, n, d, picks, b); d != 0 || e != want {
		t.Errorf("%s: Depth %v %v, not %v", what, d, e, want)
	}
}

// oddOrders are lists that are no orders.
func oddOrders() [][]int {
	l := [][]int{nil, {}, {0}, {0, 1, 2, 3, 4}, {0, 1, 2, 3, 4, 4}, {0, 0, 1, 2, 3, 4}, {1, 2, 3, 4, 5, 6}, {0, 1, 2, 3, 4, 5, 6}, {0, 1, 2, 3, 4, 5, 0}, {-1, 0, 1, 2, 3, 4}, make([]int, 6), make([]int, 2000)}
	for _, g := range far {
		l = append(l, []int{0, 1, 2, 3, 4, g}, []int{g, 1, 2, 3, 4, 5})
	}
	return l
}

// oddChanges are lists that are no changes, though not too long.
func oddChanges() [][]int {
	l := [][]int{{2, 1}, {0, 1, 2, 1}, {1, 0, 2}, {api.MaxSteps}, {0, api.MaxSteps}, append(make([]int, pct.MaxChanges-1), -1)}
	for _, n := range far {
		l = append(l, []int{n}, []int{0, n, 255}, []int{n, 3}, []int{3, n})
	}
	return l
}

// 22.1, 22.3, 22.4, R1: a program that is not right, ahead of all else; then what stands ahead of the budget, in its order;
// then the budget.
func TestWrongProgramsAndBudgets(t *testing.T) {
	p := parsed(t, lone)
	bad := prog.Copy(p)
	bad.Funcs[0].Code[0].A = 1
	long := make([]api.Pick, api.MaxSteps+1)
	many := make([]int, pct.MaxChanges+1)
	right, wrong := budgets()
	for _, b := range append(right, wrong...) {
		for _, p := range []api.Prog{{}, bad} {
			noRun(t, "no program", p, rising(), nil, b, api.ErrProg)
			noRun(t, "no program, no order, many changes", p, nil, many, b, api.ErrProg)
			noGuide(t, "no program", p, nil, b, api.ErrProg)
			noGuide(t, "no program, long picks", p, long, b, api.ErrProg)
			noSweep(t, "no program", p, 1, 0, nil, b, api.ErrProg)
			noSweep(t, "no program, no sweep", p, 0, 3, long, b, api.ErrProg)
		}
		for _, order := range oddOrders() {
			noRun(t, "no order", p, order, nil, b, api.ErrArg)
			noRun(t, "no order, many changes", p, order, many, b, api.ErrArg)
		}
		noRun(t, "many changes", p, rising(), many, b, api.ErrLong)
		noRun(t, "many changes, odd ones", p, rising(), append(many, -1), b, api.ErrLong)
		for _, list := range oddChanges() {
			noRun(t, "no changes", p, rising(), list, b, api.ErrArg)
		}
		noGuide(t, "long picks", p, long, b, api.ErrLong)
		for _, x := range append([]int{0, 5, 6}, far...) {
			noSweep(t, "no sweep of so many", p, x, 0, nil, b, api.ErrArg)
			noSweep(t, "no sweep of so many, long picks", p, x, 2, long, b, api.ErrArg)
		}
		for _, x := range append([]int{3, 4}, far...) {
			noSweep(t, "no sweep with so many", p, 1, x, nil, b, api.ErrArg)
			noSweep(t, "no sweep with so many, long picks", p, 4, x, long, b, api.ErrArg)
		}
		noSweep(t, "long picks", p, 1, 0, long, b, api.ErrLong)
	}
	for _, b := range wrong {
		noRun(t, "no budget", p, rising(), nil, b, api.ErrBudget)
		noRun(t, "no budget", p, rising(), make([]int, pct.MaxChanges), b, api.ErrBudget)
		noGuide(t, "no budget", p, nil, b, api.ErrBudget)
		noGuide(t, "no budget, odd picks", p, gos(7), b, api.ErrBudget)
		for n := 1; n <= 4; n++ {
			for d := range 3 {
				noSweep(t, "no budget", p, n, d, gos(0), b, api.ErrBudget)
				noSweep(t, "no budget, odd picks", p, n, d, gos(7), b, api.ErrBudget)
			}
		}
	}
}

// 22.1 to 22.4: budgets at the ends of their ranges, orders, changes, numbers and picks at the ends of theirs are right.
func TestRight(t *testing.T) {
	p := parsed(t, lone)
	right, _ := budgets()
	for _, b := range right {
		for _, list := range [][]int{nil, {}, {0}, {api.MaxSteps - 1}, {0, 0, api.MaxSteps - 1, api.MaxSteps - 1}, make([]int, pct.MaxChanges)} {
			for _, order := range [][]int{rising(), {5, 4, 3, 2, 1, 0}} {
				if l, e := pct.Run(p, order, list, b); e != api.OK || len(l) != min(1, b.Steps) {
					t.Errorf("Run by %v with %v: %v %v", list, b, l, e)
				}
			}
		}
		if l, e := pct.Guide(p, nil, b); len(l) > 0 || e != api.OK {
			t.Errorf("Guide with %v: %v %v", b, l, e)
		}
		for n := 1; n <= 4; n++ {
			for d := range 3 {
				l, e := pct.Sweep(p, n, d, b)
				if e != api.OK || len(l.All) != min(1, b.Runs) || l.Complete != (b.Runs > 0 && b.Steps > 0) {
					t.Errorf("Sweep with %v: %v %v", b, l, e)
				}
				if d, e := pct.Depth(p, n, d, make([]api.Pick, min(1, b.Steps)), b); d != 0 || e != api.OK {
					t.Errorf("Depth with %v: %d %v", b, d, e)
				}
				if d, e := pct.Depth(p, n, d, make([]api.Pick, api.MaxSteps), b); d != 0 || e != api.ErrNone {
					t.Errorf("Depth of many with %v: %d %v", b, d, e)
				}
			}
		}
	}
}

// 22.2: too many picks, and such as are not ready, wherever they stand.
func TestWrongPicks(t *testing.T) {
	p := parsed(t, pair)
	noGuide(t, "more than steps", p, gos(0, 0, 1), budget(2, 9), api.ErrLong)
	noGuide(t, "more than steps, not ready", p, gos(7, 7, 7), budget(2, 9), api.ErrLong)
	noGuide(t, "not there yet", p, gos(1), plenty, api.ErrPick)
	noGuide(t, "ended", p, gos(0, 0, 0), plenty, api.ErrPick)
	noGuide(t, "waits", parsed(t, waits), gos(0, 0, 0, 1), plenty, api.ErrPick)
	noGuide(t, "no alternative", p, []api.Pick{{Alt: 1}}, plenty, api.ErrPick)
	for _, n := range far {
		noGuide(t, "far off", p, []api.Pick{{}, {Go: n}}, plenty, api.ErrPick)
		noGuide(t, "far off", p, []api.Pick{{}, {Go: 1}, {Alt: n}}, plenty, api.ErrPick)
	}
}

// P1: calls of any programs with any orders, changes, picks and budgets end without a panic.
func TestAnything(t *testing.T) {
	for seed := range uint64(200) {
		p := sample.Prog(seed)
		if seed%4 == 0 {
			p.Funcs[0].Code[0].A = int(seed) - 100
		}
		any := sample.Choices(seed, 9)
		picks := []api.Pick{{Go: any[0], Alt: any[1]}, {Go: any[2], Alt: any[3]}, {}}
		b := api.Budget{Steps: any[4], Fuel: any[5], Runs: any[6]}
		for _, b := range []api.Budget{b, budget(9, 9)} {
			pct.Run(p, any[:6], any[6:], b)
			pct.Run(p, someOrder(seed), any, b)
			pct.Run(p, someOrder(seed), someChanges(seed, 30, 10), b)
			for n := range len(picks) + 1 {
				pct.Guide(p, picks[n:], b)
				pct.Depth(p, any[7], any[8], picks[n:], b)
				pct.Depth(p, 1+n, n, picks[n:], b)
			}
			pct.Sweep(p, any[7], any[8], b)
			pct.Sweep(p, int(seed%6), int(seed%4), b)
		}
	}
}

// R3, R6: what is handed in stays as it is, spare room too; answers are new memory, each run's picks too, and the same
// each time.
func TestMemory(t *testing.T) {
	strange := api.Pick{Go: -7, Alt: -7}
	for i, x := range tasks(120) {
		before := prog.Copy(x.p)
		order, list := someOrder(uint64(i)), someChanges(uint64(i), 4, 9)
		kept, changes := append(slices.Clone(order), -7), append(slices.Clone(list), -7)
		chosen, _ := sched.Robin(x.p, x.b)
		picks := append(slices.Clone(chosen), strange, strange)[:len(chosen)]
		n, d := 1+i%4, i%3
		l, _ := pct.Sweep(x.p, n, d, x.b)
		again, _ := pct.Sweep(x.p, n, d, x.b)
		for k := range l.All {
			spoil(l.All[k].Picks, strange)
			if !slices.EqualFunc(l.All[k+1:], again.All[k+1:], same) {
				t.Errorf("%d: runs share memory", i)
			}
		}
		spoil(l.All, api.Run{Repeat: true})
		calls := func() ([]api.Pick, []int, int) {
			run, _ := pct.Run(x.p, kept[:len(order)], changes[:len(list)], x.b)
			guide, _ := pct.Guide(x.p, picks, x.b)
			depth, _ := pct.Depth(x.p, n, d, picks, x.b)
			return run, guide, depth
		}
		run, guide, depth := calls()
		run1, guide1 := slices.Clone(run), slices.Clone(guide)
		spoil(run, strange)
		spoil(guide, -7)
		run, guide, depth1 := calls()
		last, _ := pct.Sweep(x.p, n, d, x.b)
		if !slices.Equal(run, run1) || !slices.Equal(guide, guide1) || depth != depth1 || !slices.EqualFunc(last.All, again.All, same) || last.Complete != again.Complete {
			t.Errorf("%d: an answer is kept, or is not the same each time", i)
		}
		if !prog.Same(x.p, before) || !slices.Equal(picks, chosen) || picks[:len(chosen)+2][len(chosen)] != strange {
			t.Errorf("%d: a call changes its program or its picks", i)
		}
		if !slices.Equal(kept, append(order, -7)) || !slices.Equal(changes, append(list, -7)) {
			t.Errorf("%d: a call changes its order, or its changes", i)
		}
	}
}
