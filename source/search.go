package source

import (
	"slices"

	"scarab/api"
	"scarab/depend"
	"scarab/doze"
	"scarab/sched"
	"scarab/step"
)

// tail is what comes behind picks: its events, the goroutines that have some of them, and its initials.
type tail struct {
	events         []api.Event
	some, initials doze.Set
}

// tailOf is the tail of some events.
func tailOf(events []api.Event) tail {
	var x tail
	for _, e := range events {
		x = x.with(e)
	}
	return x
}

// with is a tail with one event more. The list of events is written over, if it is called twice of one tail.
func (x tail) with(e api.Event) tail {
	// what comes behind a goroutine's first one depends on that: it need not be looked at.
	if !x.some.Has(e.Go) && !x.clashes(e.Touch[:e.Touches]) {
		x.initials |= doze.One(e.Go)
	}
	x.some |= doze.One(e.Go)
	x.events = append(x.events, e)
	return x
}

// clashes tells whether something that is touched clashes with what an event touched.
func (x tail) clashes(touch []api.Access) bool {
	return slices.ContainsFunc(x.events, func(e api.Event) bool { return depend.Clash(e.Touch[:e.Touches], touch) })
}

// search goes through the schedules that go on behind picks, for so many steps at most; tell is handed each run's tail,
// its last state, and whether it is cut, and says whether to go on.
type search struct {
	p           api.Prog
	steps, fuel int
	tell        func(x tail, end api.State, cut bool) bool
}

// behind tells the runs that go on behind a tail, and says whether to go on.
func (x search) behind(t tail, s api.State) bool {
	ready, _ := step.Ready(x.p, s)
	if len(ready) == 0 || len(t.events) == x.steps {
		return x.tell(t, s, len(ready) > 0)
	}
	for _, pick := range ready {
		next, event, _ := step.Do(x.p, s, pick, x.fuel)
		if !x.behind(t.with(event), next) {
			return false
		}
	}
	return true
}

// asks are the sets of which a source set behind picks has a member each, as many runs as the budget has; and whether
// all runs were seen.
func asks(p api.Prog, picks []api.Pick, b api.Budget) (asked, bool, api.Errno) {
	start, e, _ := sched.Run(p, picks, b)
	if e != api.OK {
		return asked{}, false, e
	}
	var a asked
	runs, whole := 0, true
	all := search{p, b.Steps - len(picks), b.Fuel, func(x tail, end api.State, cut bool) bool {
		if runs == b.Runs {
			return false
		}
		runs++
		// a goroutine that is spun stays so: it is there in the last state, if it was in any one ahead.
		whole = whole && !cut && !slices.ContainsFunc(end.Gos[:], spun)
		// whose first event it is is an initial: where there is none, nothing goes on, and nothing is asked for.
		if x.initials != 0 {
			a[x.initials] = true
		}
		return true
	}}.behind(tail{}, start.End)
	return a, all && whole, api.OK
}

// spun tells whether a goroutine's fuel ended.
func spun(it api.Go) bool { return it.Status == api.GoSpun }
