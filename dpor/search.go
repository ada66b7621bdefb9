package dpor

import (
	"slices"

	"scarab/api"
	"scarab/doze"
	"scarab/sched"
	"scarab/step"
)

// way is how the search came to where it stands: by picks, to a state, with goroutines asleep; whether one was taken that
// slept.
type way struct {
	picks  []api.Pick
	past   past
	state  api.State
	asleep doze.Set
	repeat bool
}

// place is ahead of a pick: which goroutines are ready there, and which of these are wanted.
type place struct {
	ready, wanted doze.Set
}

// search goes through a program's schedules; places are those ahead of the picks by which it came to where it stands.
// tell is handed each way that is a run, and whether it is cut, and says whether to go on.
type search struct {
	p      api.Prog
	b      api.Budget
	places []place
	tell   func(w way, cut bool) bool
}

// behind tells the runs that come behind a way, and says whether to go on.
func (x *search) behind(w way) bool {
	touch := next(x.p, w.state)
	x.want(w.past, touch)
	picks, _ := step.Ready(x.p, w.state)
	if len(picks) == 0 || len(w.picks) == x.b.Steps {
		return x.tell(w, len(picks) > 0)
	}
	here := len(x.places)
	x.places = append(x.places, first(doze.Picked(picks), w.asleep))
	clash := doze.Clashes(touch)
	var gone doze.Set
	for x.places[here].wanted != gone {
		g := (x.places[here].wanted &^ gone).Least()
		tired := (w.asleep | gone) &^ clash[g]
		for _, pick := range picks {
			if pick.Go == g && !x.behind(x.step(w, pick, tired)) {
				return false
			}
		}
		gone |= doze.One(g)
	}
	x.places = x.places[:here]
	return true
}

// first is a place where the search has not gone on yet.
func first(ready, asleep doze.Set) place {
	some := ready &^ asleep
	if some == 0 {
		some = ready
	}
	return place{ready, doze.One(some.Least())}
}

// step is a way with a pick more, behind which goroutines sleep.
func (x *search) step(w way, pick api.Pick, asleep doze.Set) way {
	s, event, _ := step.Do(x.p, w.state, pick, x.b.Fuel)
	return way{
		// a run's picks are handed out: they have room of their own.
		picks:  append(w.picks[:len(w.picks):len(w.picks)], pick),
		past:   w.past.with(event),
		state:  s,
		asleep: asleep,
		repeat: w.repeat || w.asleep.Has(pick.Go),
	}
}

// want has those wanted, ahead of the event that a goroutine's next step races with, by whom that step may come ahead of
// the event.
func (x *search) want(t past, touch [api.MaxGos][]api.Access) {
	for g, i := range t.races(touch) {
		at := &x.places[i]
		some := at.ready & t.since(i+1, g)
		switch {
		case some == 0:
			at.wanted = at.ready
		case some&at.wanted == 0:
			at.wanted |= doze.One(some.Least())
		}
	}
}

// each hands each run of a program to a function, as many as the budget has, and tells whether they are complete.
func each(p api.Prog, b api.Budget, see func(api.Run)) (bool, api.Errno) {
	t, e, _ := sched.Run(p, nil, b)
	if e != api.OK {
		return false, e
	}
	runs, whole := 0, true
	x := search{p: p, b: b, tell: func(w way, cut bool) bool {
		if runs == b.Runs {
			return false
		}
		runs++
		// a goroutine that is spun stays so: it is there at the last, if it was in any state ahead.
		whole = whole && !cut && !slices.ContainsFunc(w.state.Gos[:], spun)
		see(api.Run{Picks: w.picks, Cut: cut, Repeat: w.repeat})
		return true
	}}
	all := x.behind(way{state: t.End})
	return all && whole, api.OK
}

// spun tells whether a goroutine's fuel ended.
func spun(it api.Go) bool { return it.Status == api.GoSpun }
