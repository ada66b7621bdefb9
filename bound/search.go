package bound

import (
	"slices"

	"scarab/api"
	"scarab/sched"
	"scarab/step"
)

// way is a schedule as the search comes to it: its picks, the state that they lead to, how many of them are preemptions.
type way struct {
	picks []api.Pick
	end   api.State
	spent int
}

// search goes through a program's schedules that have at most so many preemptions; tell is handed each run, and whether it
// is cut, and says whether to go on.
type search struct {
	p    api.Prog
	b    api.Budget
	most int
	tell func(w way, cut bool) bool
}

// behind tells the runs that begin with a way, and says whether to go on.
func (x search) behind(w way) bool {
	ready, _ := step.Ready(x.p, w.end)
	if len(ready) == 0 || len(w.picks) == x.b.Steps {
		return x.tell(w, len(ready) > 0)
	}
	for _, pick := range ready {
		spent := w.spent
		if preempts(w.picks, ready, pick.Go) {
			spent++
		}
		if spent > x.most {
			continue
		}
		end, _, _ := step.Do(x.p, w.end, pick, x.b.Fuel)
		// a run's picks are handed out: no two ways share their room.
		picks := append(w.picks[:len(w.picks):len(w.picks)], pick)
		if !x.behind(way{picks, end, spent}) {
			return false
		}
	}
	return true
}

// preempts tells whether a goroutine that is taken behind picks preempts the one that was taken last: that one is among
// those that are ready there.
func preempts(picks, ready []api.Pick, g int) bool {
	if len(picks) == 0 {
		return false
	}
	last := picks[len(picks)-1].Go
	return g != last && slices.ContainsFunc(ready, func(pick api.Pick) bool { return pick.Go == last })
}

// begin is the way without a pick, and what is wrong with a program, a number that is to be from 0 to most, or a budget.
func begin(p api.Prog, k, most int, b api.Budget) (way, api.Errno) {
	// of no picks nothing but the program and the budget can be wrong; the number stands between both.
	t, e, _ := sched.Run(p, nil, b)
	if e != api.ErrProg && (k < 0 || k > most) {
		return way{}, api.ErrArg
	}
	return way{end: t.End}, e
}

// each hands each run behind a way to a function, as many as the budget has, and tells whether they are complete.
func each(x search, w way, see func(w way, cut bool)) bool {
	runs, whole := 0, true
	x.tell = func(w way, cut bool) bool {
		if runs == x.b.Runs {
			return false
		}
		runs++
		// a goroutine that is spun stays so: it is there in the last state, if it was in any one ahead.
		whole = whole && !cut && !slices.ContainsFunc(w.end.Gos[:], spun)
		see(w, cut)
		return true
	}
	return x.behind(w) && whole
}

// spun tells whether a goroutine's fuel ended.
func spun(it api.Go) bool { return it.Status == api.GoSpun }
