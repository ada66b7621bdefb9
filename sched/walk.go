package sched

import (
	"scarab/api"
	"scarab/prog"
	"scarab/state"
	"scarab/step"
)

// wrong tells what is wrong with a program, with a list's length, with a budget: the first of these.
func wrong(p api.Prog, length int, b api.Budget) api.Errno {
	if e, _ := prog.Check(p); e != api.OK {
		return api.ErrProg
	}
	if length > api.MaxSteps {
		return api.ErrLong
	}
	if !upTo(b.Steps, api.MaxSteps) || !upTo(b.Fuel, api.MaxFuel) || !upTo(b.Runs, api.MaxRuns) {
		return api.ErrBudget
	}
	return api.OK
}

// upTo tells whether a number is from 0 to most.
func upTo(x, most int) bool { return x >= 0 && x <= most }

// walk goes through the states of a run, from the start on: next is handed each of them, and tells the pick that is to be
// taken there, and whether there is one. A pick that is not ready ends the run too. It tells the events and the last
// state.
func walk(p api.Prog, fuel int, next func(s api.State) (api.Pick, bool)) ([]api.Event, api.State) {
	var events []api.Event
	s, _ := state.Start(p, fuel)
	for {
		pick, some := next(s)
		if !some {
			return events, s
		}
		behind, event, e := step.Do(p, s, pick, fuel)
		if e != api.OK {
			return events, s
		}
		events = append(events, event)
		s = behind
	}
}

// along tells picks, one behind the other, whatever the state.
func along(picks []api.Pick) func(api.State) (api.Pick, bool) {
	n := 0
	return func(api.State) (api.Pick, bool) {
		if n == len(picks) {
			return api.Pick{}, false
		}
		n++
		return picks[n-1], true
	}
}

// run takes picks, one behind the other; see is handed each state, as far as they can be taken.
func run(p api.Prog, picks []api.Pick, b api.Budget, see func(api.State)) (api.Trace, api.Errno, int) {
	if e := wrong(p, len(picks), b); e != api.OK {
		return api.Trace{}, e, 0
	}
	if len(picks) > b.Steps {
		return api.Trace{}, api.ErrLong, b.Steps
	}
	next := along(picks)
	events, end := walk(p, b.Fuel, func(s api.State) (api.Pick, bool) {
		see(s)
		return next(s)
	})
	if len(events) < len(picks) {
		return api.Trace{}, api.ErrPick, len(events)
	}
	return api.Trace{Events: events, End: end, Cut: len(picks) == b.Steps && !stuck(p, end)}, api.OK, 0
}

// made are the picks of a run of at most some steps: choose is handed those that were taken and those that are ready, of
// which it tells one.
func made(p api.Prog, fuel, steps int, choose func(taken, ready []api.Pick) api.Pick) []api.Pick {
	var taken []api.Pick
	walk(p, fuel, func(s api.State) (api.Pick, bool) {
		if len(taken) == steps {
			return api.Pick{}, false
		}
		ready, _ := step.Ready(p, s)
		if len(ready) == 0 {
			return api.Pick{}, false
		}
		pick := choose(taken, ready)
		taken = append(taken, pick)
		return pick, true
	})
	return taken
}
