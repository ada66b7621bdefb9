package sched_test

import (
	"math"
	"slices"
	"testing"

	"scarab/api"
	"scarab/asm"
	"scarab/sample"
	"scarab/sched"
	"scarab/state"
	"scarab/step"
)

// far are numbers that are out of most ranges.
var far = []int{math.MinInt, math.MinInt32, -2, -1, 1 << 17, 1 << 32, math.MaxInt - 1, math.MaxInt}

// Programs that are run often.
const (
	// one goroutine, one step.
	lone = "scarab\nfunc 0 0\nyield\nend"
	// main spawns one that yields, and yields twice itself.
	pair = "scarab\nfunc 0 0\nspawn _ f1 r0\nyield\nyield\nend\nfunc 0 0\nyield\nend"
	// main locks a lock twice.
	stuck = "scarab\nmutex\nfunc 0 0\nlock l0\nlock l0\nend"
	// a yield for ever.
	ring = "scarab\nfunc 0 0\nyield\njump @0"
	// main fills two channels, and selects from both, or takes the else if nothing is there, for ever.
	choice = `scarab
		chan 1
		chan 1
		func 0 1
		choose @3
		onrecv c0 r0 @2
		onrecv c1 r0 @2
		send c0 r0
		send c1 r0
		select s0
		jump @2`
	// main spawns three that yield for ever.
	crowd = "scarab\nfunc 0 0\nspawn _ f1 r0\nspawn _ f1 r0\nspawn _ f1 r0\nend\nfunc 0 0\nyield\njump @0"
)

// parsed is the program of a text.
func parsed(t *testing.T, text string) api.Prog {
	t.Helper()
	p, e, line := asm.Parse(text)
	if e != api.OK {
		t.Fatalf("%v in line %d of %s", e, line, text)
	}
	return p
}

// gos are picks of goroutines, each by its alternative 0.
func gos(l ...int) []api.Pick {
	var picks []api.Pick
	for _, g := range l {
		picks = append(picks, api.Pick{Go: g})
	}
	return picks
}

// turns is a number of picks of main.
func turns(n int) []api.Pick { return make([]api.Pick, n) }

// steps is a budget of some steps and enough fuel.
func steps(n int) api.Budget { return api.Budget{Steps: n, Fuel: 50} }

// taken is a run that the steps alone tell: the states ahead of the picks and the last one, the events, the error of the
// first pick that is not ready.
func taken(p api.Prog, picks []api.Pick, fuel int) ([]api.State, []api.Event, api.Errno) {
	s, e := state.Start(p, fuel)
	states, events := []api.State{s}, []api.Event{}
	for _, pick := range picks {
		var x api.Event
		if s, x, e = step.Do(p, s, pick, fuel); e != api.OK {
			return states, events, e
		}
		states, events = append(states, s), append(events, x)
	}
	return states, events, e
}

// play is a program, picks and a budget.
type play struct {
	p     api.Prog
	picks []api.Pick
	b     api.Budget
}

// plays are legal schedules of sampled programs, of all lengths that their budgets let them have.
func plays(t *testing.T, n uint64) []play {
	t.Helper()
	var l []play
	for seed := range n {
		p := sample.Small(seed)
		if seed%5 == 0 {
			p = sample.Prog(seed)
		}
		b := api.Budget{Steps: int(seed % 30), Fuel: int(seed % 23), Runs: int(seed)}
		picks, e := sched.Choose(p, sample.Choices(seed, int(seed*7%40)), b)
		if e != api.OK {
			t.Fatalf("seed %d: %v", seed, e)
		}
		l = append(l, play{p, picks, b})
	}
	return l
}

// picked asks that picks were told, and no error.
func picked(t *testing.T, what string, l []api.Pick, e api.Errno, want []api.Pick) {
	t.Helper()
	if e != api.OK || !slices.Equal(l, want) {
		t.Errorf("%s: %v %v, not %v", what, l, e, want)
	}
}

// zero tells whether a trace is.
func zero(x api.Trace) bool { return len(x.Events) == 0 && x.End == (api.State{}) && !x.Cut }
