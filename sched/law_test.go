package sched_test

import (
	"slices"
	"testing"

	"scarab/api"
	"scarab/prog"
	"scarab/sample"
	"scarab/sched"
	"scarab/step"
)

// 9.5: what Choose and Robin tell is legal, and has no more picks than steps.
func TestMadeLegal(t *testing.T) {
	for i, x := range plays(t, 300) {
		robin, e := sched.Robin(x.p, x.b)
		if e != api.OK {
			t.Fatal(e)
		}
		for _, l := range [][]api.Pick{x.picks, robin} {
			if _, e, at := sched.Run(x.p, l, x.b); e != api.OK {
				t.Errorf("%d: %v at %d of %v", i, e, at, l)
			}
		}
	}
}

// 9.5: each legal schedule is Choose's of some choices: of the places of its picks among those that are ready.
func TestChosenAgain(t *testing.T) {
	for i, x := range plays(t, 300) {
		states, e := sched.States(x.p, x.picks, x.b)
		if e != api.OK {
			t.Fatal(e)
		}
		var choices []int
		for n, pick := range x.picks {
			ready, _ := step.Ready(x.p, states[n])
			choices = append(choices, slices.Index(ready, pick))
		}
		l, e := sched.Choose(x.p, choices, x.b)
		picked(t, "chosen again", l, e, x.picks)
		if e != api.OK {
			t.Fatalf("%d: %v", i, e)
		}
	}
}

// 9.5: a run's beginning is the run of the beginning.
func TestBeginning(t *testing.T) {
	for i, x := range plays(t, 150) {
		whole, e, _ := sched.Run(x.p, x.picks, x.b)
		states, e1 := sched.States(x.p, x.picks, x.b)
		if e != api.OK || e1 != api.OK {
			t.Fatal(e, e1)
		}
		for n := range x.picks {
			part, e, _ := sched.Run(x.p, x.picks[:n], x.b)
			if e != api.OK || !slices.Equal(part.Events, whole.Events[:n]) || part.End != states[n] || part.Cut {
				t.Errorf("%d: %d of %v: %v", i, n, x.picks, e)
			}
		}
	}
}

// 9.6: two runs of the same picks are the same, and a maximal schedule is never cut.
func TestTwice(t *testing.T) {
	maximal := 0
	for i, x := range plays(t, 300) {
		a, e, _ := sched.Run(x.p, x.picks, x.b)
		b, e1, _ := sched.Run(prog.Copy(x.p), slices.Clone(x.picks), x.b)
		if e != e1 || !slices.Equal(a.Events, b.Events) || a.End != b.End || a.Cut != b.Cut {
			t.Errorf("%d: %v, and then %v", i, a, b)
		}
		if is, _ := sched.Maximal(x.p, x.picks, x.b); !is {
			continue
		}
		maximal++
		for _, n := range []int{len(x.picks), len(x.picks) + 1, api.MaxSteps} {
			if a, e, _ := sched.Run(x.p, x.picks, api.Budget{Steps: n, Fuel: x.b.Fuel}); e != api.OK || a.Cut {
				t.Errorf("%d: a maximal one with %d steps: %v, cut: %v", i, n, e, a.Cut)
			}
		}
	}
	if maximal < 50 {
		t.Errorf("only %d were maximal", maximal)
	}
}

// P1: calls of any programs with any picks, choices and budgets end without a panic.
func TestAnything(t *testing.T) {
	for seed := range uint64(200) {
		p := sample.Prog(seed)
		if seed%4 == 0 && len(p.Funcs[0].Code) > 0 {
			p.Funcs[0].Code[0].A = int(seed) - 100
		}
		odd := sample.Choices(seed, 9)
		picks := []api.Pick{{Go: odd[0], Alt: odd[1]}, {Go: odd[2], Alt: odd[3]}, {}}
		b := api.Budget{Steps: odd[4], Fuel: odd[5], Runs: odd[6]}
		for _, b := range []api.Budget{b, steps(9)} {
			sched.Run(p, picks, b)
			sched.Legal(p, picks, b)
			sched.Choose(p, odd, b)
			sched.Robin(p, b)
			sched.Maximal(p, picks, b)
			sched.States(p, picks, b)
		}
		sched.Switches(picks)
	}
}

// roomy is a list with spare room, in which something stands.
func roomy[T any](l []T, odd T) []T {
	long := append(slices.Clone(l), odd, odd, odd)
	return long[:len(l)]
}

// spoiled is a list of which all members, and its spare room, have become something else.
func spoiled[T any](l []T, odd T) {
	l = l[:cap(l)]
	for i := range l {
		l[i] = odd
	}
}

// R3: what is handed in stays as it is, spare room too, and answers are new memory.
func TestMemory(t *testing.T) {
	odd := api.Pick{Go: -7, Alt: -7}
	for i, x := range plays(t, 100) {
		before := prog.Copy(x.p)
		picks, choices := roomy(x.picks, odd), roomy(sample.Choices(uint64(i), 20), -7)
		calls := func() (api.Trace, []api.State, []api.Pick, []api.Pick) {
			trace, _, _ := sched.Run(x.p, picks, x.b)
			states, _ := sched.States(x.p, picks, x.b)
			chosen, _ := sched.Choose(x.p, choices, x.b)
			robin, _ := sched.Robin(x.p, x.b)
			sched.Legal(x.p, picks, x.b)
			sched.Maximal(x.p, picks, x.b)
			sched.Switches(picks)
			return trace, states, chosen, robin
		}
		trace, states, chosen, robin := calls()
		events, list, c, r := slices.Clone(trace.Events), slices.Clone(states), slices.Clone(chosen), slices.Clone(robin)
		spoiled(trace.Events, api.Event{Go: -7})
		spoiled(states, api.State{Count: -7})
		spoiled(chosen, odd)
		spoiled(robin, odd)
		trace, states, chosen, robin = calls()
		if !slices.Equal(trace.Events, events) || !slices.Equal(states, list) || !slices.Equal(chosen, c) || !slices.Equal(robin, r) {
			t.Errorf("%d: an answer is kept", i)
		}
		full := picks[:len(picks)+3]
		if !slices.Equal(picks, x.picks) || !slices.Equal(full[len(picks):], []api.Pick{odd, odd, odd}) || !prog.Same(x.p, before) {
			t.Errorf("%d: a call changes its arguments", i)
		}
		if more := choices[:23]; !slices.Equal(more[20:], []int{-7, -7, -7}) || !slices.Equal(choices, sample.Choices(uint64(i), 20)) {
			t.Errorf("%d: a call changes its choices", i)
		}
	}
}
