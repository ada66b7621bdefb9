package source_test

import (
	"slices"
	"testing"

	"scarab/api"
	"scarab/prog"
	"scarab/sample"
	"scarab/sched"
	"scarab/source"
)

// budgets are such as are right, at the ends of their ranges, and such as are not.
func budgets() (right, wrong []api.Budget) {
	right = []api.Budget{{}, {Steps: api.MaxSteps}, {Fuel: api.MaxFuel}, {Runs: api.MaxRuns}, {Steps: api.MaxSteps, Fuel: api.MaxFuel, Runs: api.MaxRuns}}
	for _, n := range far {
		wrong = append(wrong, api.Budget{Steps: n, Fuel: 9, Runs: 9}, api.Budget{Steps: 9, Fuel: n, Runs: 9}, api.Budget{Steps: 9, Fuel: 9, Runs: n})
	}
	return right, append(wrong, api.Budget{Steps: api.MaxSteps + 1}, api.Budget{Fuel: api.MaxFuel + 1}, api.Budget{Runs: api.MaxRuns + 1})
}

// noIs asks that Is tells an error, and nothing else.
func noIs(t *testing.T, what string, p api.Prog, picks []api.Pick, set []int, b api.Budget, want api.Errno) {
	t.Helper()
	if is, all, e := source.Is(p, picks, set, b); is || all || e != want {
		t.Errorf("%s: Is %v %v %v, not %v", what, is, all, e, want)
	}
}

// noWeak asks that Weak tells an error, and nothing else.
func noWeak(t *testing.T, what string, p api.Prog, picks, more []api.Pick, b api.Budget, want api.Errno) {
	t.Helper()
	if l, e := source.Weak(p, picks, more, b); len(l) > 0 || e != want {
		t.Errorf("%s: Weak %v %v, not %v", what, l, e, want)
	}
}

// odd asks that the calls tell an error of a program, picks and a budget, and nothing else.
func odd(t *testing.T, what string, p api.Prog, picks []api.Pick, b api.Budget, want api.Errno) {
	t.Helper()
	if l, all, e := source.Least(p, picks, b); len(l) > 0 || all || e != want {
		t.Errorf("%s: Least %v %v %v, not %v", what, l, all, e, want)
	}
	noIs(t, what, p, picks, []int{0, 5}, b, want)
	noIs(t, what, p, picks, nil, b, want)
	noWeak(t, what, p, picks, nil, b, want)
	noWeak(t, what, p, nil, picks, b, want)
}

// 21.2, 21.3, R1: a program that is not right, ahead of all else; then picks that are too many; then the budget.
func TestWrongProgramsAndBudgets(t *testing.T) {
	p := parsed(t, lone)
	bad := prog.Copy(p)
	bad.Funcs[0].Code[0].A = 1
	long := make([]api.Pick, api.MaxSteps+1)
	right, wrong := budgets()
	for _, b := range append(right, wrong...) {
		for _, p := range []api.Prog{{}, bad} {
			odd(t, "no program", p, nil, b, api.ErrProg)
			odd(t, "no program, odd picks", p, gos(7), b, api.ErrProg)
			odd(t, "no program, long picks", p, long, b, api.ErrProg)
			noIs(t, "no program, an odd set", p, long, []int{7}, b, api.ErrProg)
			noIs(t, "no program, a long set", p, nil, make([]int, 7), b, api.ErrProg)
			noWeak(t, "no program, both long", p, long, long, b, api.ErrProg)
		}
		odd(t, "long picks", p, long, b, api.ErrLong)
		noWeak(t, "both long", p, long, long, b, api.ErrLong)
		noWeak(t, "more is long, picks are not ready", p, gos(7), long, b, api.ErrLong)
	}
	for _, b := range wrong {
		odd(t, "no budget", p, nil, b, api.ErrBudget)
		odd(t, "no budget, odd picks", p, gos(7), b, api.ErrBudget)
		odd(t, "no budget, many picks", p, gos(0, 0), b, api.ErrBudget)
		noWeak(t, "no budget, both of them long", p, long[1:], long[1:], b, api.ErrBudget)
	}
	for _, b := range right {
		if _, _, e := source.Least(p, nil, b); e != api.OK {
			t.Errorf("Least with %v: %v", b, e)
		}
		if _, _, e := source.Is(p, nil, nil, b); e != api.OK {
			t.Errorf("Is with %v: %v", b, e)
		}
		if _, e := source.Weak(p, nil, nil, b); e != api.OK {
			t.Errorf("Weak with %v: %v", b, e)
		}
	}
}

// 21.3, R1: sets that are too long, ahead of their members; both behind picks that are too many, and ahead of the budget
// and of picks that are not ready.
func TestWrongSets(t *testing.T) {
	p := parsed(t, lone)
	long := make([]api.Pick, api.MaxSteps+1)
	right, wrong := budgets()
	for _, b := range append(right, wrong...) {
		for _, picks := range [][]api.Pick{nil, gos(0), gos(7), gos(0, 0, 0)} {
			noIs(t, "a long set", p, picks, make([]int, api.MaxGos+1), b, api.ErrLong)
			noIs(t, "a long set, odd members", p, picks, []int{-1, 6, 6, 6, 6, 6, 6}, b, api.ErrLong)
			for _, g := range append([]int{api.MaxGos, api.MaxGos + 1}, far...) {
				noIs(t, "an odd member", p, picks, []int{g}, b, api.ErrArg)
				noIs(t, "an odd member, the last one", p, picks, []int{0, 1, 2, 3, 5, g}, b, api.ErrArg)
			}
		}
		noIs(t, "long picks", p, long, []int{7}, b, api.ErrLong)
	}
	for g := range api.MaxGos {
		if is, all, e := source.Is(p, nil, []int{g, g, g, g, g, g}, plenty); is != (g == 0) || !all || e != api.OK {
			t.Errorf("%d: %v %v %v", g, is, all, e)
		}
	}
}

// 21.2, 21.3: more picks than steps, and such as are not ready, wherever they stand.
func TestWrongPicks(t *testing.T) {
	p := parsed(t, pair)
	odd(t, "more than steps", p, gos(0, 0, 1), budget(2, 9), api.ErrLong)
	odd(t, "more than steps, not ready", p, gos(7, 7, 7), budget(2, 9), api.ErrLong)
	odd(t, "not there yet", p, gos(1), plenty, api.ErrPick)
	odd(t, "ended", p, gos(0, 0, 0), plenty, api.ErrPick)
	odd(t, "waits", parsed(t, waits), gos(0, 0, 0, 1), plenty, api.ErrPick)
	odd(t, "no alternative", p, []api.Pick{{Alt: 1}}, plenty, api.ErrPick)
	for _, n := range far {
		odd(t, "far off", p, []api.Pick{{}, {Go: n}}, plenty, api.ErrPick)
		odd(t, "far off", p, []api.Pick{{}, {Go: 1}, {Alt: n}}, plenty, api.ErrPick)
	}
	noWeak(t, "both are more than steps", p, gos(0, 0), gos(1), budget(2, 9), api.ErrLong)
	noWeak(t, "both are more than steps, not ready", p, gos(7), gos(7, 7), budget(2, 9), api.ErrLong)
	noWeak(t, "not ready behind picks", p, gos(0, 1), gos(1), plenty, api.ErrPick)
	noWeak(t, "picks are not ready, more would be", p, gos(1), gos(0), plenty, api.ErrPick)
	many := make([]api.Pick, api.MaxSteps)
	noWeak(t, "more than any steps", p, many, many, budget(api.MaxSteps, 9), api.ErrLong)
	ringing := parsed(t, ring)
	noWeak(t, "one more than any steps", ringing, many, many[:1], budget(api.MaxSteps, 9), api.ErrLong)
	if l, e := source.Weak(ringing, many[1:], many[:1], budget(api.MaxSteps, 0)); !slices.Equal(l, []int{0}) || e != api.OK {
		t.Errorf("just as many: %v %v", l, e)
	}
}

// 21.1: events that are no trace, ahead of the place.
func TestWrongEvents(t *testing.T) {
	l := []api.Event{writes(0, 0), writes(1, 0)}
	bad := slices.Clone(l)
	bad[1].Go = api.MaxGos
	long := slices.Repeat(l, api.MaxSteps)[:api.MaxSteps+1]
	for _, from := range append([]int{0, 1, 2, 3}, far...) {
		for _, x := range []struct {
			l    []api.Event
			want api.Errno
		}{{bad, api.ErrTrace}, {[]api.Event{{}}, api.ErrTrace}, {long, api.ErrLong}} {
			if got, e := source.Initials(x.l, from); len(got) > 0 || e != x.want {
				t.Errorf("from %d: %v %v, not %v", from, got, e, x.want)
			}
		}
	}
	for _, from := range append([]int{3}, far...) {
		if got, e := source.Initials(l, from); len(got) > 0 || e != api.ErrArg {
			t.Errorf("from %d: %v %v", from, got, e)
		}
	}
	if got, e := source.Initials(nil, 1); len(got) > 0 || e != api.ErrArg {
		t.Errorf("from 1 of none: %v %v", got, e)
	}
}

// P1: calls of any programs with any picks, sets, events and budgets end without a panic.
func TestAnything(t *testing.T) {
	for seed := range uint64(200) {
		p := sample.Prog(seed)
		if seed%4 == 0 {
			p.Funcs[0].Code[0].A = int(seed) - 100
		}
		any := sample.Choices(seed, 9)
		picks := []api.Pick{{Go: any[0], Alt: any[1]}, {Go: any[2], Alt: any[3]}, {}}
		b := api.Budget{Steps: any[4], Fuel: any[5], Runs: any[6]}
		for _, b := range []api.Budget{b, budget(9, 9)} {
			for n := range len(picks) + 1 {
				source.Least(p, picks[n:], b)
				source.Is(p, picks[n:], any[:n], b)
				source.Weak(p, picks[n:], picks[:n], b)
			}
		}
		events := sample.Trace(seed, int(seed%9))
		if len(events) > 0 {
			events[0].Touches = any[7]
			events[0].Go = any[8]
		}
		source.Initials(events, any[0])
		source.Initials(events, 0)
	}
}

// R3, R6: what is handed in stays as it is, spare room too; answers are new memory, and the same each time.
func TestMemory(t *testing.T) {
	strange := api.Pick{Go: -7, Alt: -7}
	for i, x := range tasks(t, 100) {
		before := prog.Copy(x.p)
		kept := slices.Clone(x.picks)
		picks := append(slices.Clone(kept), strange, strange)[:len(kept)]
		set := append([]int{i % 6, 0}, -7, -7)[:2]
		run, _, _ := sched.Run(x.p, picks, x.b)
		events := append(slices.Clone(run.Events), api.Event{Go: -7})[:len(kept)]
		half := len(kept) / 2
		calls := func() ([]int, []int, []int, bool) {
			l, _, _ := source.Least(x.p, picks, x.b)
			w, _ := source.Weak(x.p, picks[:half], picks[half:], x.b)
			first, _ := source.Initials(events, half)
			is, _, _ := source.Is(x.p, picks, set, x.b)
			return l, w, first, is
		}
		l, w, first, is := calls()
		l1, w1, first1 := slices.Clone(l), slices.Clone(w), slices.Clone(first)
		spoil(l, -7)
		spoil(w, -7)
		spoil(first, -7)
		l, w, first, is1 := calls()
		if !slices.Equal(l, l1) || !slices.Equal(w, w1) || !slices.Equal(first, first1) || is != is1 {
			t.Errorf("%d: an answer is kept, or is not the same each time", i)
		}
		if !prog.Same(x.p, before) || !slices.Equal(picks, kept) || picks[:len(kept)+2][len(kept)] != strange {
			t.Errorf("%d: a call changes its arguments", i)
		}
		if !slices.Equal(set[:4], []int{i % 6, 0, -7, -7}) || !slices.Equal(events, run.Events) || events[:len(kept)+1][len(kept)].Go != -7 {
			t.Errorf("%d: a call changes its set, or its events", i)
		}
	}
}
