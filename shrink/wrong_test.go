package shrink_test

import (
	"slices"
	"testing"

	"scarab/api"
	"scarab/prog"
	"scarab/sample"
	"scarab/shrink"
)

// budgets are such as are right, at the ends of their ranges, and such as are not.
func budgets() (right, wrong []api.Budget) {
	right = []api.Budget{{Steps: 1}, {Steps: api.MaxSteps}, {Steps: 1, Fuel: api.MaxFuel}, {Steps: 1, Runs: api.MaxRuns}, {Steps: api.MaxSteps, Fuel: api.MaxFuel, Runs: api.MaxRuns}}
	for _, n := range far {
		wrong = append(wrong, api.Budget{Steps: n, Fuel: 9, Runs: 9}, api.Budget{Steps: 9, Fuel: n, Runs: 9}, api.Budget{Steps: 9, Fuel: 9, Runs: n})
	}
	return right, append(wrong, api.Budget{Steps: api.MaxSteps + 1}, api.Budget{Fuel: api.MaxFuel + 1}, api.Budget{Runs: api.MaxRuns + 1})
}

// single asks that Shrink and Least tell an error of picks, and nothing else.
func single(t *testing.T, what string, p api.Prog, picks []api.Pick, f api.Found, b api.Budget, want api.Errno) {
	t.Helper()
	if l, n, e := shrink.Shrink(p, picks, f, b); len(l) > 0 || n != 0 || e != want {
		t.Errorf("%s: Shrink %v %d %v, not %v", what, l, n, e, want)
	}
	if is, e := shrink.Least(p, picks, f, b); is || e != want {
		t.Errorf("%s: Least %v %v, not %v", what, is, e, want)
	}
}

// refused asks that All tells an error of findings, and nothing else.
func refused(t *testing.T, what string, p api.Prog, l []api.Finding, b api.Budget, want api.Errno) {
	t.Helper()
	if r, e := shrink.All(p, l, b); len(r) > 0 || e != want {
		t.Errorf("%s: All %v %v, not %v", what, r, e, want)
	}
}

// odd asks that all three tell an error of picks, and nothing else.
func odd(t *testing.T, what string, p api.Prog, picks []api.Pick, f api.Found, b api.Budget, want api.Errno) {
	t.Helper()
	single(t, what, p, picks, f, b, want)
	refused(t, what, p, []api.Finding{{Found: f, Picks: picks}}, b, want)
}

// 24.2, 24.3, R1: a program that is not right, ahead of all else; then picks, or findings, that are too many; then the
// budget.
func TestWrongProgramsAndBudgets(t *testing.T) {
	p, f := parsed(t, twice), at(api.KindDeadlock, 0, 1)
	bad := prog.Copy(p)
	bad.Funcs[0].Code[0].B = 1
	long, many := make([]api.Pick, api.MaxSteps+1), make([]api.Finding, shrink.MaxItems+1)
	right, wrong := budgets()
	for _, b := range append(right, wrong...) {
		for _, p := range []api.Prog{{}, bad} {
			odd(t, "no program", p, gos(0), f, b, api.ErrProg)
			odd(t, "no program, odd picks", p, gos(7), f, b, api.ErrProg)
			odd(t, "no program, long picks", p, long, f, b, api.ErrProg)
			refused(t, "no program, nothing found", p, nil, b, api.ErrProg)
			refused(t, "no program, much found", p, many, b, api.ErrProg)
		}
		single(t, "long picks", p, long, f, b, api.ErrLong)
		refused(t, "much found", p, many, b, api.ErrLong)
	}
	for _, b := range wrong {
		odd(t, "no budget", p, gos(0), f, b, api.ErrBudget)
		odd(t, "no budget, odd picks", p, gos(7), f, b, api.ErrBudget)
		odd(t, "no budget, not shown", p, nil, f, b, api.ErrBudget)
		refused(t, "no budget, nothing found", p, nil, b, api.ErrBudget)
		refused(t, "no budget, long picks", p, []api.Finding{{Found: f, Picks: long}}, b, api.ErrBudget)
	}
	for _, b := range right {
		refused(t, "long picks in a finding", p, []api.Finding{{Found: f, Picks: long}}, b, api.ErrLong)
		if l, n, e := shrink.Shrink(p, gos(0), f, b); e != api.OK || !slices.Equal(l, gos(0)) || n != 2 {
			t.Errorf("Shrink with %v: %v %d %v", b, l, n, e)
		}
		if l, e := shrink.All(p, nil, b); len(l) > 0 || e != api.OK {
			t.Errorf("All with %v: %v %v", b, l, e)
		}
	}
}

// 24.2, 24.3: too many picks, such as are not ready, and such as do not show it.
func TestWrongPicks(t *testing.T) {
	p := parsed(t, stores)
	odd(t, "more than steps", p, gos(0, 0, 0, 1, 1), race, budget(4, 9), api.ErrLong)
	odd(t, "more than steps, not ready", p, gos(7, 7, 7), race, budget(2, 9), api.ErrLong)
	odd(t, "not there yet", p, gos(1), race, plenty, api.ErrPick)
	odd(t, "shown, and then not ready", p, gos(0, 0, 0, 1, 1, 1), race, plenty, api.ErrPick)
	odd(t, "no alternative", p, []api.Pick{{Alt: 1}}, race, plenty, api.ErrPick)
	for _, n := range far {
		odd(t, "far off", p, []api.Pick{{}, {Go: n}}, race, plenty, api.ErrPick)
		odd(t, "far off", p, []api.Pick{{}, {Alt: n}}, race, plenty, api.ErrPick)
		other := race
		other.Num = n
		odd(t, "of another variable", p, gos(0, 0, 0, 1, 1), other, plenty, api.ErrShow)
		odd(t, "of another kind", p, gos(0, 0, 0, 1, 1), api.Found{Kind: n, A: race.A, B: race.B}, plenty, api.ErrShow)
	}
	odd(t, "not yet shown", p, gos(0, 0, 0, 1), race, plenty, api.ErrShow)
	odd(t, "nothing is shown", p, nil, race, budget(0, 0), api.ErrShow)
	odd(t, "no kind", p, gos(0, 0, 0, 1, 1), api.Found{}, plenty, api.ErrShow)
	odd(t, "the places changed about", p, gos(0, 0, 0, 1, 1), api.Found{Kind: api.KindRace, A: race.B, B: race.A}, plenty, api.ErrShow)
	odd(t, "a deadlock where something goes on", parsed(t, twice), nil, at(api.KindDeadlock, 0, 0), plenty, api.ErrShow)
}

// 24.3: of several findings that are wrong the first one is told; none of the others is.
func TestWrongFindings(t *testing.T) {
	p := parsed(t, stores)
	find := func(l ...int) api.Finding { return api.Finding{Found: race, Picks: gos(l...)} }
	fine, long, not, none := find(0, 0, 0, 1, 1), find(0, 0, 0, 1, 1, 1), find(0, 2), find(0)
	b := budget(5, 9)
	for _, x := range []struct {
		l    []api.Finding
		want api.Errno
	}{
		{[]api.Finding{long, not, none}, api.ErrLong}, {[]api.Finding{not, long, none}, api.ErrPick}, {[]api.Finding{none, not, long}, api.ErrShow},
		{[]api.Finding{fine, fine, none, not}, api.ErrShow}, {[]api.Finding{fine, not}, api.ErrPick}, {[]api.Finding{fine, long}, api.ErrLong},
	} {
		refused(t, "several", p, x.l, b, x.want)
	}
}

// 24.3: as many findings as there may be.
func TestAllOfMany(t *testing.T) {
	p := parsed(t, twice)
	l := slices.Repeat([]api.Finding{{Found: at(api.KindDeadlock, 0, 1), Picks: gos(0)}}, shrink.MaxItems)
	if r, e := shrink.All(p, l, plenty); e != api.OK || !slices.EqualFunc(r, l, same) {
		t.Errorf("%d findings: %d %v", len(l), len(r), e)
	}
	l[shrink.MaxItems-1].Picks = nil
	refused(t, "the last one does not show it", p, l, plenty, api.ErrShow)
	if shrink.MaxItems != 4096 {
		t.Errorf("MaxItems is %d", shrink.MaxItems)
	}
}

// P1: calls of any programs with any picks, findings and budgets end without a panic.
func TestAnything(t *testing.T) {
	for seed := range uint64(200) {
		p := sample.Prog(seed)
		if seed%4 == 0 {
			p.Funcs[0].Code[0].A = int(seed) - 100
		}
		any := sample.Choices(seed, 16)
		picks := []api.Pick{{Go: any[0], Alt: any[1]}, {Go: any[2], Alt: any[3]}, {}}
		f := api.Found{Kind: any[7], A: api.Spot{Func: any[8], PC: any[9]}, B: api.Spot{Func: any[10], PC: any[11]}, Num: any[12], Why: any[13]}
		b := api.Budget{Steps: any[4], Fuel: any[5], Runs: any[6]}
		for _, b := range []api.Budget{b, budget(9, 9)} {
			shrink.Shrink(p, picks, f, b)
			shrink.Least(p, picks, f, b)
			shrink.All(p, []api.Finding{{Found: f, Picks: picks}}, b)
		}
		shrink.Moves(picks)
		shrink.Shorter(picks, picks[1:])
	}
}

// R3, R6: what is handed in stays as it is, spare room too; answers are new memory, each move and each finding's picks too,
// and the same each time.
func TestMemory(t *testing.T) {
	strange := api.Pick{Go: -7, Alt: -7}
	for i, x := range tasks(t, 200) {
		before := prog.Copy(x.p)
		kept := slices.Clone(x.picks)
		picks := append(x.picks, strange, strange)[:len(kept)]
		list := append([]api.Finding{{Found: x.f, Picks: picks}, {Found: x.f, Picks: picks}}, api.Finding{Picks: gos(7)})[:2]
		least, tries, _ := shrink.Shrink(x.p, kept, x.f, x.b)
		for range 2 {
			l, n, e := shrink.Shrink(x.p, picks, x.f, x.b)
			if e != api.OK || n != tries || !slices.Equal(l, least) {
				t.Errorf("%d: %v %d %v, not %v %d", i, l, n, e, least, tries)
			}
			spoil(l, strange)
			l, _, _ = shrink.Shrink(x.p, least, x.f, x.b)
			spoil(l, strange)
			all, _ := shrink.All(x.p, list, x.b)
			for _, f := range all {
				if f.Found != x.f || !slices.Equal(f.Picks, least) {
					t.Errorf("%d: All shares memory: %v, not %v", i, f, least)
				}
				spoil(f.Picks, strange)
			}
			spoil(all, api.Finding{Picks: gos(7)})
			shrink.Least(x.p, picks, x.f, x.b)
			moves, _ := shrink.Moves(picks)
			for k, want := range movesOf(kept) {
				if !slices.Equal(moves[k], want) {
					t.Errorf("%d: moves share memory: %v, not %v", i, moves[k], want)
				}
				spoil(moves[k], strange)
			}
			spoil(moves, nil)
		}
		if !prog.Same(x.p, before) || !slices.Equal(picks, kept) || picks[:len(kept)+2][len(kept)] != strange || !slices.Equal(list[:3][2].Picks, gos(7)) {
			t.Errorf("%d: a call changes its arguments", i)
		}
	}
}
