package tree_test

import (
	"slices"
	"testing"

	"scarab/api"
	"scarab/prog"
	"scarab/sample"
	"scarab/sched"
	"scarab/tree"
)

// budgets are such as are right, at the ends of their ranges, and such as are not.
func budgets() (right, wrong []api.Budget) {
	right = []api.Budget{{}, {Steps: api.MaxSteps}, {Fuel: api.MaxFuel}, {Runs: api.MaxRuns}, {Steps: api.MaxSteps, Fuel: api.MaxFuel, Runs: api.MaxRuns}}
	for _, n := range far {
		wrong = append(wrong, api.Budget{Steps: n, Fuel: 9, Runs: 9}, api.Budget{Steps: 9, Fuel: n, Runs: 9}, api.Budget{Steps: 9, Fuel: 9, Runs: n})
	}
	return right, append(wrong, api.Budget{Steps: api.MaxSteps + 1}, api.Budget{Fuel: api.MaxFuel + 1}, api.Budget{Runs: api.MaxRuns + 1})
}

// refused asks that the calls without lists tell an error, and nothing else.
func refused(t *testing.T, what string, p api.Prog, b api.Budget, want api.Errno) {
	t.Helper()
	l, e := tree.All(p, b)
	if len(l.All) > 0 || l.Complete || e != want {
		t.Errorf("%s: All %v %v", what, l, e)
	}
	k, is, e := tree.Classes(p, b)
	if len(k) > 0 || is || e != want {
		t.Errorf("%s: Classes %q %v %v", what, k, is, e)
	}
	s, is, e := tree.Ends(p, b)
	if len(s) > 0 || is || e != want {
		t.Errorf("%s: Ends %v %v %v", what, s, is, e)
	}
}

// listed asks what Firsts and Keys of one run tell of picks: an error, and nothing else.
func listed(t *testing.T, what string, p api.Prog, picks []api.Pick, b api.Budget, want api.Errno) {
	t.Helper()
	if l, e := tree.Firsts(p, picks, b); len(l) > 0 || e != want {
		t.Errorf("%s: Firsts %v %v, not %v", what, l, e, want)
	}
	if k, e := tree.Keys(p, []api.Run{{Picks: picks}}, b); len(k) > 0 || e != want {
		t.Errorf("%s: Keys %q %v, not %v", what, k, e, want)
	}
}

// 15.1, 15.2, R1: a program that is not right, ahead of all else; then the budget.
func TestWrongProgramsAndBudgets(t *testing.T) {
	p := parsed(t, lone)
	bad := prog.Copy(p)
	bad.Funcs[0].Code[0].A = 1
	right, wrong := budgets()
	for _, b := range append(right, wrong...) {
		for _, p := range []api.Prog{{}, bad} {
			refused(t, "no program", p, b, api.ErrProg)
			listed(t, "no program", p, nil, b, api.ErrProg)
			listed(t, "no program", p, gos(7), b, api.ErrProg)
			listed(t, "no program", p, make([]api.Pick, api.MaxSteps+1), b, api.ErrProg)
			if k, e := tree.Keys(p, make([]api.Run, api.MaxRuns+1), b); len(k) > 0 || e != api.ErrProg {
				t.Errorf("no program, too many runs: %q %v", k, e)
			}
		}
	}
	for _, b := range wrong {
		refused(t, "no budget", p, b, api.ErrBudget)
		listed(t, "no budget", p, nil, b, api.ErrBudget)
		listed(t, "no budget, not ready", p, gos(7), b, api.ErrBudget)
		listed(t, "no budget, too many steps", p, gos(0, 0), b, api.ErrBudget)
		if k, e := tree.Keys(p, nil, b); len(k) > 0 || e != api.ErrBudget {
			t.Errorf("no budget, no runs: %q %v", k, e)
		}
		if l, e := tree.Firsts(p, make([]api.Pick, api.MaxSteps+1), b); len(l) > 0 || e != api.ErrLong {
			t.Errorf("too many picks ahead of no budget: %v %v", l, e)
		}
		if k, e := tree.Keys(p, make([]api.Run, api.MaxRuns+1), b); len(k) > 0 || e != api.ErrLong {
			t.Errorf("too many runs ahead of no budget: %q %v", k, e)
		}
	}
	for _, b := range right {
		if _, e := tree.All(p, b); e != api.OK {
			t.Errorf("All with %v: %v", b, e)
		}
		if k, e := tree.Keys(p, make([]api.Run, api.MaxRuns+1), b); len(k) > 0 || e != api.ErrLong {
			t.Errorf("too many runs: %q %v", k, e)
		}
	}
}

// 15.2: too many picks, and such as are not ready.
func TestWrongPicks(t *testing.T) {
	p := parsed(t, pair)
	listed(t, "too many of all", p, make([]api.Pick, api.MaxSteps+1), plenty, api.ErrLong)
	listed(t, "more than steps", p, gos(0, 0, 1), budget(2, 9), api.ErrLong)
	listed(t, "more than steps, not ready", p, gos(7, 7, 7), budget(2, 9), api.ErrLong)
	listed(t, "not there yet", p, gos(1), plenty, api.ErrPick)
	listed(t, "ended", p, gos(0, 0, 0), plenty, api.ErrPick)
	listed(t, "no alternative", p, []api.Pick{{Alt: 1}}, plenty, api.ErrPick)
	for _, n := range far {
		listed(t, "far off", p, []api.Pick{{}, {Go: n}}, plenty, api.ErrPick)
		listed(t, "far off", p, []api.Pick{{}, {Alt: n}}, plenty, api.ErrPick)
	}
}

// 15.2: of several runs that are wrong the first one is told; none of the keys is told then.
func TestWrongRuns(t *testing.T) {
	p := parsed(t, pair)
	fine, long, odd := api.Run{Picks: gos(0)}, api.Run{Picks: gos(0, 0, 1, 1)}, api.Run{Picks: gos(0, 2)}
	for _, x := range []struct {
		l    []api.Run
		want api.Errno
	}{
		{[]api.Run{long, odd}, api.ErrLong}, {[]api.Run{odd, long}, api.ErrPick}, {[]api.Run{fine, odd, long}, api.ErrPick},
		{[]api.Run{fine, fine, long, odd}, api.ErrLong}, {append(make([]api.Run, api.MaxRuns-1), odd), api.ErrPick},
		{append(make([]api.Run, api.MaxRuns), odd), api.ErrLong}, {append([]api.Run{odd}, make([]api.Run, api.MaxRuns)...), api.ErrLong},
	} {
		if k, e := tree.Keys(p, x.l, budget(3, 9)); len(k) > 0 || e != x.want {
			t.Errorf("%d runs: %q %v, not %v", len(x.l), k, e, x.want)
		}
	}
}

// P1: calls of any programs with any picks and budgets end without a panic.
func TestAnything(t *testing.T) {
	for seed := range uint64(200) {
		p := sample.Prog(seed)
		if seed%4 == 0 {
			p.Funcs[0].Code[0].A = int(seed) - 100
		}
		odd := sample.Choices(seed, 9)
		picks := []api.Pick{{Go: odd[0], Alt: odd[1]}, {Go: odd[2], Alt: odd[3]}, {}}
		b := api.Budget{Steps: odd[4], Fuel: odd[5], Runs: odd[6]}
		for _, b := range []api.Budget{b, budget(9, 9)} {
			tree.All(p, b)
			tree.Classes(p, b)
			tree.Ends(p, b)
			tree.Firsts(p, picks, b)
			tree.Keys(p, []api.Run{{}, {Picks: picks}}, b)
		}
	}
}

// R3, R6: what is handed in stays as it is, spare room too; answers are new memory, each run's picks too, and the same
// each time.
func TestMemory(t *testing.T) {
	odd := api.Pick{Go: -7, Alt: -7}
	for i, x := range tasks(100) {
		before := prog.Copy(x.p)
		picks, _ := sched.Choose(x.p, sample.Choices(uint64(i), i%9), x.b)
		kept := slices.Clone(picks)
		picks = append(picks, odd, odd)[:len(kept)]
		runs := append([]api.Run{{Picks: picks}, {}}, api.Run{Cut: true})[:2]
		l, _ := tree.All(x.p, x.b)
		again, _ := tree.All(x.p, x.b)
		for n := range l.All {
			spoil(l.All[n].Picks, odd)
			if !slices.EqualFunc(l.All[n+1:], again.All[n+1:], same) {
				t.Errorf("%d: runs share memory", i)
			}
		}
		spoil(l.All, api.Run{Repeat: true})
		calls := func() ([]string, []api.State, []int, []string) {
			k, _, _ := tree.Classes(x.p, x.b)
			s, _, _ := tree.Ends(x.p, x.b)
			g, _ := tree.Firsts(x.p, picks, x.b)
			m, _ := tree.Keys(x.p, runs, x.b)
			return k, s, g, m
		}
		k, s, g, m := calls()
		k1, s1, g1, m1 := slices.Clone(k), slices.Clone(s), slices.Clone(g), slices.Clone(m)
		spoil(k, "odd")
		spoil(s, api.State{Count: -7})
		spoil(g, -7)
		spoil(m, "odd")
		k, s, g, m = calls()
		last, _ := tree.All(x.p, x.b)
		if !slices.Equal(k, k1) || !slices.Equal(s, s1) || !slices.Equal(g, g1) || !slices.Equal(m, m1) || !slices.EqualFunc(last.All, again.All, same) {
			t.Errorf("%d: an answer is kept, or is not the same each time", i)
		}
		if !prog.Same(x.p, before) || !slices.Equal(picks, kept) || picks[:len(kept)+2][len(kept)] != odd || len(runs[0].Picks) != len(kept) || !runs[:3][2].Cut {
			t.Errorf("%d: a call changes its arguments", i)
		}
	}
}
