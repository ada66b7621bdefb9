package sched_test

import (
	"slices"
	"testing"

	"scarab/api"
	"scarab/sched"
	"scarab/state"
	"scarab/step"
)

// ran asks what Run tells: how many events, whether it is cut.
func ran(t *testing.T, what, text string, picks []api.Pick, b api.Budget, cut bool) api.Trace {
	t.Helper()
	x, e, at := sched.Run(parsed(t, text), picks, b)
	if e != api.OK || at != 0 || len(x.Events) != len(picks) || x.Cut != cut {
		t.Errorf("%s: %v at %d, %d events, cut: %v", what, e, at, len(x.Events), x.Cut)
	}
	return x
}

// refused asks that Run tells an error, a place, and nothing else.
func refused(t *testing.T, what string, p api.Prog, picks []api.Pick, b api.Budget, want api.Errno, place int) {
	t.Helper()
	if x, e, at := sched.Run(p, picks, b); e != want || at != place || !zero(x) {
		t.Errorf("%s: %v at %d, not %v at %d; %v", what, e, at, want, place, x)
	}
}

// 9.1: the chapter's example 1.
func TestRunExample(t *testing.T) {
	x := ran(t, "one yield", lone, turns(1), steps(9), false)
	if len(x.Events) != 1 || x.Events[0].Op != api.OpYield || x.End.Gos[0].Status != api.GoDone {
		t.Error(x)
	}
	ran(t, "no steps", lone, nil, steps(0), true)
	refused(t, "nobody", parsed(t, lone), gos(1), steps(9), api.ErrPick, 0)
}

// 9.1: cut is a run of as many picks as there may be, behind which something is ready.
func TestRunCut(t *testing.T) {
	ran(t, "fewer picks", ring, turns(3), steps(4), false)
	ran(t, "as many", ring, turns(4), steps(4), true)
	ran(t, "the most", ring, turns(api.MaxSteps), steps(api.MaxSteps), true)
	ran(t, "as many, and an end", lone, turns(1), steps(1), false)
	ran(t, "as many, and a deadlock", stuck, turns(1), steps(1), false)
	ran(t, "no picks, none may be", stuck, []api.Pick{}, steps(0), true)
	ran(t, "no picks", stuck, nil, steps(1), false)
	ran(t, "another one is ready", pair, gos(0, 0, 0), steps(3), true)
	ran(t, "one with an else is ready", choice, turns(2), steps(2), true)
	if x := ran(t, "spun", lone, nil, api.Budget{}, true); x.End.Gos[0].Status != api.GoLive {
		t.Error(x.End)
	}
	if x := ran(t, "spun", "scarab\nfunc 0 0\nend", nil, api.Budget{}, false); x.End.Gos[0].Status != api.GoSpun {
		t.Error(x.End)
	}
}

// 9.1: each step has the budget's fuel, and so has the start.
func TestRunFuel(t *testing.T) {
	text := "scarab\nfunc 0 1\nconst r0 1\nconst r0 2\nyield\nconst r0 3\nconst r0 4\nconst r0 5\nyield\nend"
	p := parsed(t, text)
	for fuel, want := range []struct {
		start, behind int64 // what r0 is, once main stands
		spun          bool
	}{{0, 0, true}, {1, 0, true}, {2, 4, true}, {2, 5, false}, {2, 5, false}} {
		b := api.Budget{Steps: 9, Fuel: fuel}
		x, e, _ := sched.Run(p, nil, b)
		if e != api.OK || x.End.Gos[0].Regs[0] != want.start || (x.End.Gos[0].Status == api.GoSpun) != (fuel < 2) {
			t.Errorf("fuel %d: %v, %v", fuel, e, x.End.Gos[0])
		}
		if fuel < 2 {
			refused(t, "a spun one", p, turns(1), b, api.ErrPick, 0)
			continue
		}
		x, e, _ = sched.Run(p, turns(1), b)
		if e != api.OK || x.End.Gos[0].Regs[0] != want.behind || (x.End.Gos[0].Status == api.GoSpun) != want.spun {
			t.Errorf("fuel %d, one step: %v, %v", fuel, e, x.End.Gos[0])
		}
	}
}

// 9.1: the first pick that is not ready, wherever it stands.
func TestRunPick(t *testing.T) {
	p := parsed(t, pair)
	refused(t, "not spawned yet", p, gos(1, 0), steps(9), api.ErrPick, 0)
	refused(t, "ended", p, gos(0, 1, 1, 0), steps(9), api.ErrPick, 2)
	refused(t, "one too many", p, gos(0, 1, 0, 0, 0), steps(9), api.ErrPick, 4)
	refused(t, "an alternative", p, []api.Pick{{}, {Go: 1}, {Alt: 1}, {Alt: 2}}, steps(9), api.ErrPick, 2)
	refused(t, "a deadlock", parsed(t, stuck), turns(2), steps(9), api.ErrPick, 1)
	for _, n := range far {
		refused(t, "a far goroutine", p, []api.Pick{{}, {Go: n}}, steps(9), api.ErrPick, 1)
		refused(t, "a far alternative", p, []api.Pick{{}, {Alt: n}}, steps(9), api.ErrPick, 1)
	}
	full := parsed(t, choice)
	refused(t, "the else of a select with a case", full, []api.Pick{{}, {}, {Alt: 2}}, steps(9), api.ErrPick, 2)
	if x, e, _ := sched.Run(full, []api.Pick{{}, {}, {Alt: 1}}, steps(9)); e != api.OK || x.Events[2].Alt != 1 {
		t.Errorf("a select's second case: %v, %v", x.Events, e)
	}
}

// budgets are such as are right, at the ends of their ranges, and such as are not.
func budgets() (right, wrong []api.Budget) {
	for _, m := range []api.Budget{{}, {Steps: api.MaxSteps}, {Fuel: api.MaxFuel}, {Runs: api.MaxRuns}, {Steps: api.MaxSteps, Fuel: api.MaxFuel, Runs: api.MaxRuns}} {
		right = append(right, m)
	}
	for _, n := range far {
		wrong = append(wrong, api.Budget{Steps: n, Fuel: 9, Runs: 9}, api.Budget{Steps: 9, Fuel: n, Runs: 9}, api.Budget{Steps: 9, Fuel: 9, Runs: n})
	}
	return right, append(wrong, api.Budget{Steps: api.MaxSteps + 1}, api.Budget{Fuel: api.MaxFuel + 1}, api.Budget{Runs: api.MaxRuns + 1})
}

// answers are the errors of all calls, and whether all else that they tell is zero; number is how many picks or choices
// they are given, which goroutine is that of the picks.
func answers(p api.Prog, number, g int, b api.Budget) ([]api.Errno, bool) {
	picks := make([]api.Pick, number)
	for i := range picks {
		picks[i].Go = g
	}
	x, e1, at := sched.Run(p, picks, b)
	n, e2 := sched.Legal(p, picks, b)
	is, e3 := sched.Maximal(p, picks, b)
	s, e4 := sched.States(p, picks, b)
	c, e5 := sched.Choose(p, make([]int, number), b)
	r, e6 := sched.Robin(p, b)
	return []api.Errno{e1, e2, e3, e4, e5, e6}, zero(x) && at == 0 && n == 0 && !is && len(s)+len(c)+len(r) == 0
}

// 9.1 to 9.3, R1: a program that is not right, then a list that is too long, then a budget that is none; with the place
// 0. Both ends of a budget's ranges are right.
func TestErrors(t *testing.T) {
	p := parsed(t, ring)
	ask := func(what string, p api.Prog, number, g int, b api.Budget, want, robin api.Errno) {
		t.Helper()
		l, none := answers(p, number, g, b)
		if wanted := []api.Errno{want, want, want, want, want, robin}; !slices.Equal(l, wanted) || !none {
			t.Errorf("%s, %v: %v, not %v; nothing else: %v", what, b, l, wanted, none)
		}
	}
	right, wrong := budgets()
	falls := api.Prog{Funcs: []api.Func{{Code: []api.Instr{{Op: api.OpYield}}}}}
	for _, b := range wrong {
		for _, g := range []int{0, 7} {
			ask("no program", api.Prog{}, 3, g, b, api.ErrProg, api.ErrProg)
			ask("falls off", falls, api.MaxSteps+1, g, b, api.ErrProg, api.ErrProg)
			ask("no budget", p, 0, g, b, api.ErrBudget, api.ErrBudget)
			ask("no budget, picks", p, api.MaxSteps, g, b, api.ErrBudget, api.ErrBudget)
			ask("too long, no budget", p, api.MaxSteps+1, g, b, api.ErrLong, api.ErrBudget)
		}
	}
	for _, b := range right {
		ask("no program", falls, 0, 0, b, api.ErrProg, api.ErrProg)
		l, _ := answers(p, api.MaxSteps+1, 0, b)
		if !slices.Equal(l, []api.Errno{api.ErrLong, api.ErrLong, api.ErrLong, api.ErrLong, api.ErrLong, api.OK}) {
			t.Errorf("too long, %v: %v", b, l)
		}
		l, _ = answers(p, 0, 0, b)
		if slices.ContainsFunc(l, func(e api.Errno) bool { return e != api.OK }) {
			t.Errorf("%v: %v", b, l)
		}
		refused(t, "more than MaxSteps", p, turns(api.MaxSteps+1), b, api.ErrLong, 0)
		refused(t, "far more", p, turns(1<<20), b, api.ErrLong, 0)
	}
}

// 9.1, 9.2: more picks than steps: ErrLong and the steps, ahead of picks that are not ready; not of Legal.
func TestErrSteps(t *testing.T) {
	p := parsed(t, ring)
	for _, n := range []int{0, 1, 5, 255} {
		refused(t, "too many", p, turns(n+1), steps(n), api.ErrLong, n)
		refused(t, "too many, none ready", p, gos(slices.Repeat([]int{9}, n+1)...), steps(n), api.ErrLong, n)
		l, _ := answers(p, n+1, 0, steps(n))
		if !slices.Equal(l, []api.Errno{api.ErrLong, api.OK, api.ErrLong, api.ErrLong, api.OK, api.OK}) {
			t.Errorf("too many: %v", l)
		}
	}
	l, _ := answers(p, 3, 4, steps(3))
	if !slices.Equal(l, []api.Errno{api.ErrPick, api.OK, api.ErrPick, api.ErrPick, api.OK, api.OK}) {
		t.Errorf("not ready: %v", l)
	}
	if l, e := sched.States(p, gos(0, 0, 4), steps(3)); len(l) != 0 || e != api.ErrPick {
		t.Errorf("States beside an error: %d, %v", len(l), e)
	}
	if is, e := sched.Maximal(parsed(t, lone), gos(0, 0), steps(1)); is || e != api.ErrLong {
		t.Errorf("Maximal beside an error: %v, %v", is, e)
	}
}

// 9.2: Legal.
func TestLegal(t *testing.T) {
	legal := func(text string, picks []api.Pick, b api.Budget, want int) {
		t.Helper()
		if n, e := sched.Legal(parsed(t, text), picks, b); n != want || e != api.OK {
			t.Errorf("%v of %s: %d %v, not %d", picks, text, n, e, want)
		}
	}
	legal(lone, nil, steps(9), 0)
	legal(lone, turns(1), steps(9), 1)
	legal(lone, turns(9), steps(9), 1)
	legal(lone, turns(1), steps(0), 0)
	legal(lone, gos(1, 0), steps(9), 0)
	legal(ring, turns(7), steps(9), 7)
	legal(ring, turns(9), steps(7), 7)
	legal(ring, turns(api.MaxSteps), steps(api.MaxSteps), api.MaxSteps)
	legal(ring, turns(api.MaxSteps), steps(1), 1)
	legal(pair, gos(0, 1, 1, 0), steps(9), 2)
	legal(stuck, turns(2), steps(9), 1)
	legal(lone, turns(1), api.Budget{Steps: 9}, 1)
	legal("scarab\nfunc 0 1\nconst r0 1\nyield\nend", turns(1), api.Budget{Steps: 9}, 0)
}

// 9.2: Maximal.
func TestMaximal(t *testing.T) {
	maximal := func(text string, picks []api.Pick, b api.Budget, want bool) {
		t.Helper()
		if is, e := sched.Maximal(parsed(t, text), picks, b); is != want || e != api.OK {
			t.Errorf("%v of %s: %v %v, not %v", picks, text, is, e, want)
		}
	}
	maximal(lone, nil, steps(9), false)
	maximal(lone, nil, steps(0), false)
	maximal(lone, turns(1), steps(9), true)
	maximal(lone, turns(1), steps(1), true)
	maximal(stuck, turns(1), steps(9), true)
	maximal(pair, gos(0, 0, 0), steps(9), false)
	maximal(pair, gos(0, 0, 0, 1), steps(9), true)
	maximal("scarab\nfunc 0 0\nend", nil, steps(0), true)
	maximal("scarab\nfunc 0 0\njump @0", nil, steps(9), true)
	maximal(ring, turns(9), steps(9), false)
}

// 9.1, 9.2, 9.5: of sampled runs the events and states are those that the steps told.
func TestRunSteps(t *testing.T) {
	events := 0
	for i, x := range plays(t, 400) {
		states, want, _ := taken(x.p, x.picks, x.b.Fuel)
		last := states[len(states)-1]
		events += len(want)
		ready, _ := step.Ready(x.p, last)
		got, e, at := sched.Run(x.p, x.picks, x.b)
		if e != api.OK || at != 0 || !slices.Equal(got.Events, want) || got.End != last || got.Cut != (len(x.picks) == x.b.Steps && len(ready) > 0) {
			t.Fatalf("%d: %v at %d, %v, not %v", i, e, at, got, want)
		}
		if l, e := sched.States(x.p, x.picks, x.b); e != api.OK || !slices.Equal(l, states) {
			t.Errorf("%d: %v, %d states, not %d", i, e, len(l), len(states))
		}
		if is, e := sched.Maximal(x.p, x.picks, x.b); e != api.OK || is != (len(ready) == 0) {
			t.Errorf("%d: maximal: %v, %v", i, is, e)
		}
		if n, e := sched.Legal(x.p, x.picks, x.b); e != api.OK || n != len(x.picks) {
			t.Errorf("%d: %d of %d, %v", i, n, len(x.picks), e)
		}
	}
	if events < 1000 {
		t.Errorf("only %d events", events)
	}
}

// 9.1, 9.2: sampled runs of which one pick is another one are told as the steps tell them.
func TestRunOther(t *testing.T) {
	bad := 0
	for i, x := range plays(t, 400) {
		if len(x.picks) == 0 {
			continue
		}
		at := i % len(x.picks)
		x.picks[at].Go += i%3 - 1
		x.picks[at].Alt += i / 3 % 3
		states, events, e := taken(x.p, x.picks, x.b.Fuel)
		n, e1 := sched.Legal(x.p, x.picks, x.b)
		if e1 != api.OK || n != len(events) {
			t.Errorf("%d: %d are legal, not %d, %v", i, n, len(events), e1)
		}
		got, e2, place := sched.Run(x.p, x.picks, x.b)
		if e == api.OK {
			if e2 != api.OK || !slices.Equal(got.Events, events) || got.End != states[len(events)] {
				t.Errorf("%d: %v, %v", i, e2, got)
			}
			continue
		}
		bad++
		if e2 != api.ErrPick || place != len(events) || !zero(got) {
			t.Errorf("%d: %v at %d, not at %d", i, e2, place, len(events))
		}
	}
	if bad < 100 {
		t.Errorf("only %d were not legal", bad)
	}
}

// 9.2: the first state is that of the start, whatever the picks.
func TestStatesStart(t *testing.T) {
	p := parsed(t, pair)
	start, _ := state.Start(p, 50)
	for _, picks := range [][]api.Pick{nil, {}, turns(1), gos(0, 1, 0)} {
		l, e := sched.States(p, picks, steps(9))
		if e != api.OK || len(l) != len(picks)+1 || l[0] != start {
			t.Errorf("%v: %d states, %v", picks, len(l), e)
		}
	}
}
