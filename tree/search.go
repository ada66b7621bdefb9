package tree

import (
	"slices"

	"scarab/api"
	"scarab/sched"
	"scarab/step"
)

// run is a run as the search comes to it: its picks, what they did, the state they lead to. The lists are the search's
// own, which writes over them as it goes on: who keeps them, keeps copies.
type run struct {
	picks  []api.Pick
	events []api.Event
	end    api.State
	cut    bool
}

// search goes through a program's schedules; tell is handed each run, and says whether to go on.
type search struct {
	p    api.Prog
	b    api.Budget
	tell func(r run) bool
}

// behind tells the runs that begin with picks, and says whether to go on.
func (x search) behind(r run) bool {
	ready, _ := step.Ready(x.p, r.end)
	if len(ready) == 0 || len(r.picks) == x.b.Steps {
		r.cut = len(ready) > 0
		return x.tell(r)
	}
	for _, pick := range ready {
		end, event, _ := step.Do(x.p, r.end, pick, x.b.Fuel)
		if !x.behind(run{append(r.picks, pick), append(r.events, event), end, false}) {
			return false
		}
	}
	return true
}

// each hands each run of a program to a function, as many as the budget has, and tells whether they are complete.
func each(p api.Prog, b api.Budget, see func(run)) (bool, api.Errno) {
	t, e, _ := sched.Run(p, nil, b)
	if e != api.OK {
		return false, e
	}
	runs, whole := 0, true
	all := search{p, b, func(r run) bool {
		if runs == b.Runs {
			return false
		}
		runs++
		// a goroutine that is spun stays so: it is there in the last state, if it was in any one ahead.
		whole = whole && !r.cut && !slices.ContainsFunc(r.end.Gos[:], spun)
		see(r)
		return true
	}}.behind(run{end: t.End})
	return all && whole, api.OK
}

// spun tells whether a goroutine's fuel ended.
func spun(it api.Go) bool { return it.Status == api.GoSpun }
