package persist_test

import (
	"slices"
	"testing"

	"scarab/api"
	"scarab/persist"
	"scarab/prog"
	"scarab/sample"
)

// budgets are such as are right, at the ends of their ranges, and such as are not.
func budgets() (right, wrong []api.Budget) {
	right = []api.Budget{{}, {Steps: api.MaxSteps}, {Fuel: api.MaxFuel}, {Runs: api.MaxRuns}, {Steps: api.MaxSteps, Fuel: api.MaxFuel, Runs: api.MaxRuns}}
	for _, n := range far {
		wrong = append(wrong, api.Budget{Steps: n, Fuel: 9, Runs: 9}, api.Budget{Steps: 9, Fuel: n, Runs: 9}, api.Budget{Steps: 9, Fuel: 9, Runs: n})
	}
	return right, append(wrong, api.Budget{Steps: api.MaxSteps + 1}, api.Budget{Fuel: api.MaxFuel + 1}, api.Budget{Runs: api.MaxRuns + 1})
}

// refused asks that the searches tell an error, and nothing else.
func refused(t *testing.T, what string, p api.Prog, b api.Budget, want api.Errno) {
	t.Helper()
	l, e := persist.All(p, b)
	if len(l.All) > 0 || l.Complete || e != want {
		t.Errorf("%s: All %v %v, not %v", what, l, e, want)
	}
	n, given, e := persist.Tally(p, b)
	if n != 0 || given != 0 || e != want {
		t.Errorf("%s: Tally %d %d %v, not %v", what, n, given, e, want)
	}
}

// closureFails, closedFails and setFails ask that a call tells an error, and nothing else.
func closureFails(t *testing.T, what string, p api.Prog, s api.State, g int, want api.Errno) {
	t.Helper()
	if l, e := persist.Closure(p, s, g); len(l) > 0 || e != want {
		t.Errorf("%s: Closure of %d: %v %v, not %v", what, g, l, e, want)
	}
}

func closedFails(t *testing.T, what string, p api.Prog, s api.State, set []int, want api.Errno) {
	t.Helper()
	if is, e := persist.Closed(p, s, set); is || e != want {
		t.Errorf("%s: Closed of %v: %v %v, not %v", what, set, is, e, want)
	}
}

func setFails(t *testing.T, what string, p api.Prog, s api.State, want api.Errno) {
	t.Helper()
	if l, e := persist.Set(p, s); len(l) > 0 || e != want {
		t.Errorf("%s: Set %v %v, not %v", what, l, e, want)
	}
}

// 18.2, R1: a program that is not right, ahead of the budget.
func TestWrongProgramsAndBudgets(t *testing.T) {
	p := parsed(t, lone)
	bad := prog.Copy(p)
	bad.Funcs[0].Code[0].A = 1
	right, wrong := budgets()
	for _, b := range append(right, wrong...) {
		refused(t, "no program", api.Prog{}, b, api.ErrProg)
		refused(t, "a bad program", bad, b, api.ErrProg)
	}
	for _, b := range wrong {
		refused(t, "no budget", p, b, api.ErrBudget)
	}
	for _, b := range right {
		if _, e := persist.All(p, b); e != api.OK {
			t.Errorf("All with %v: %v", b, e)
		}
		if _, _, e := persist.Tally(p, b); e != api.OK {
			t.Errorf("Tally with %v: %v", b, e)
		}
	}
}

// 18.1, R1: the program, then the state, then how many there are, then numbers that are no goroutine's, then such as are
// not live.
func TestWrongSets(t *testing.T) {
	p := parsed(t, both)
	bad := prog.Copy(p)
	bad.Funcs[0].Code[0].A = 9
	s := behind(t, p, gos(0, 0), 50)
	odd := s
	odd.Count = 7
	long := []int{1, 2, 1, 2, 1, 2, 1}
	for _, g := range append(far, 0, 1, 3, api.MaxGos) {
		closureFails(t, "no program", bad, s, g, api.ErrProg)
		closureFails(t, "no program, no state", api.Prog{}, odd, g, api.ErrProg)
		closureFails(t, "no state", p, odd, g, api.ErrState)
		for _, set := range [][]int{nil, {g}, long} {
			closedFails(t, "no program", bad, s, set, api.ErrProg)
			closedFails(t, "no program, no state", api.Prog{}, odd, set, api.ErrProg)
			closedFails(t, "no state", p, odd, set, api.ErrState)
		}
	}
	setFails(t, "no program", bad, s, api.ErrProg)
	setFails(t, "no program, no state", api.Prog{}, odd, api.ErrProg)
	setFails(t, "no state", p, odd, api.ErrState)
	setFails(t, "another state", p, api.State{}, api.ErrState)
	for _, g := range append(far, api.MaxGos) {
		closureFails(t, "no number", p, s, g, api.ErrArg)
		closedFails(t, "no number", p, s, []int{g}, api.ErrArg)
		closedFails(t, "no number behind right ones", p, s, []int{1, 2, 1, 2, 1, g}, api.ErrArg)
		closedFails(t, "no number behind one that is not live", p, s, []int{0, 3, g}, api.ErrArg)
		closedFails(t, "no number, not live behind it", p, s, []int{g, 0}, api.ErrArg)
		closedFails(t, "too many, no number", p, s, []int{g, 1, 1, 1, 1, 1, 1}, api.ErrLong)
	}
	for _, g := range []int{0, 3, 4, 5} {
		closureFails(t, "not live", p, s, g, api.ErrNone)
		closedFails(t, "not live", p, s, []int{g}, api.ErrNone)
		closedFails(t, "not live, twice, and others", p, s, []int{1, g, 2, g}, api.ErrNone)
	}
	closedFails(t, "too many", p, s, long, api.ErrLong)
	closedFails(t, "too many, not live", p, s, make([]int, api.MaxGos+1), api.ErrLong)
	closedFails(t, "far too many", p, s, make([]int, 1<<20), api.ErrLong)
}

// 18.1: done, failed and spun ones are not live; one that waits for its offer to be taken is.
func TestNotLive(t *testing.T) {
	p := parsed(t, "scarab\nchan 0\nfunc 0 1\nspawn _ f1 r0\nspawn _ f2 r0\nspawn _ f3 r0\nsend c0 r0\nend\nfunc 0 0\nend\nfunc 0 1\nassert r0 1\nend\nfunc 0 0\njump @0")
	s := behind(t, p, gos(0, 0, 0, 0), 50)
	for g, want := range []int{api.GoWait, api.GoDone, api.GoFailed, api.GoSpun} {
		if s.Gos[g].Status != want {
			t.Fatalf("%d has the status %d", g, s.Gos[g].Status)
		}
		if g > 0 {
			closureFails(t, "ended", p, s, g, api.ErrNone)
			closedFails(t, "ended", p, s, []int{0, g}, api.ErrNone)
		}
	}
	if l, e := persist.Closure(p, s, 0); !slices.Equal(l, []int{0}) || e != api.OK {
		t.Errorf("Closure of one that waits: %v %v", l, e)
	}
	if is, e := persist.Closed(p, s, []int{0}); !is || e != api.OK {
		t.Errorf("Closed of one that waits: %v %v", is, e)
	}
	setFails(t, "nothing is ready", p, s, api.OK)
}

// P1: calls of any programs with any states, numbers and budgets end without a panic.
func TestAnything(t *testing.T) {
	for seed := range uint64(200) {
		p := sample.Prog(seed)
		s := sample.State(p, seed)
		odd := sample.Choices(seed, 12)
		switch seed % 5 {
		case 0:
			p.Funcs[0].Code[0].A = int(seed) - 100
		case 1:
			s.Gos[0].PC = odd[0]
		case 2:
			s.Count = odd[1] % 9
		}
		persist.Set(p, s)
		persist.Closed(p, s, odd[:seed%8])
		for g := -1; g <= api.MaxGos; g++ {
			persist.Closure(p, s, g)
			persist.Closed(p, s, []int{g, 0, int(seed % 7)})
		}
		for _, b := range []api.Budget{{Steps: odd[4], Fuel: odd[5], Runs: odd[6]}, budget(9, 9)} {
			persist.All(p, b)
			persist.Tally(p, b)
		}
	}
}

// R3, R6: what is handed in stays as it is, spare room too; answers are new memory, each run's picks too, and the same
// each time.
func TestMemory(t *testing.T) {
	odd := api.Pick{Go: -7, Alt: -7}
	for i, x := range tasks(100) {
		before := prog.Copy(x.p)
		l, _ := persist.All(x.p, x.b)
		again, _ := persist.All(x.p, x.b)
		for n := range l.All {
			spoil(l.All[n].Picks, odd)
			if !slices.EqualFunc(l.All[n+1:], again.All[n+1:], same) {
				t.Errorf("%d: runs share memory", i)
			}
		}
		spoil(l.All, api.Run{Repeat: true})
		s := sample.State(x.p, uint64(i))
		set, _ := persist.Set(x.p, s)
		least, _ := persist.Closure(x.p, s, 0)
		kept, was := slices.Clone(set), slices.Clone(least)
		spoil(set, -7)
		spoil(least, -7)
		set, _ = persist.Set(x.p, s)
		least, _ = persist.Closure(x.p, s, 0)
		last, _ := persist.All(x.p, x.b)
		if !slices.Equal(set, kept) || !slices.Equal(least, was) || !slices.EqualFunc(last.All, again.All, same) || last.Complete != again.Complete {
			t.Errorf("%d: an answer is kept, or is not the same each time", i)
		}
		some := append(slices.Clone(set), -7, -8)[:len(set)]
		persist.Closed(x.p, s, some)
		if !prog.Same(x.p, before) || !slices.Equal(some, kept) || some[:len(set)+2][len(set)] != -7 {
			t.Errorf("%d: a call changes its arguments", i)
		}
	}
}
