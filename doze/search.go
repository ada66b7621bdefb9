package doze

import (
	"slices"

	"scarab/api"
	"scarab/depend"
	"scarab/prog"
	"scarab/state"
	"scarab/step"
)

// place is where the search stands: behind picks, in the state that they lead to, with goroutines asleep. The picks are
// the search's own, which writes over them as it goes on: who keeps them, keeps a copy.
type place struct {
	picks  []api.Pick
	state  api.State
	asleep Set
}

// kind is why the search does not go on at a place: its picks are a run, one that is cut, or given up.
type kind int

const (
	isRun kind = iota
	isCut
	isGiven
)

// search goes through a program's schedules; tell is handed each place at which it does not go on, and says whether to
// go on with others.
type search struct {
	p     api.Prog
	b     api.Budget
	among Among
	tell  func(place, kind) bool
}

// behind tells the places that come behind one, and says whether to go on.
func (x search) behind(at place) bool {
	ready, _ := step.Ready(x.p, at.state)
	if len(ready) == 0 {
		return x.tell(at, isRun)
	}
	open := Picked(ready)
	some := open & x.among(at.state, open)
	if some&^at.asleep == 0 {
		return x.tell(at, isGiven)
	}
	if len(at.picks) == x.b.Steps {
		return x.tell(at, isCut)
	}
	clash := Clashes(Touches(x.p, at.state, some|at.asleep))
	for _, pick := range ready {
		if !some.Has(pick.Go) || at.asleep.Has(pick.Go) {
			continue
		}
		next, _, _ := step.Do(x.p, at.state, pick, x.b.Fuel)
		tired := at.asleep | some.Below(pick.Go)
		if !x.behind(place{append(at.picks, pick), next, tired &^ clash[pick.Go]}) {
			return false
		}
	}
	return true
}

// Touches is what the next steps of some live goroutines of a state touch; nothing of the others.
func Touches(p api.Prog, s api.State, some Set) [api.MaxGos][]api.Access {
	var touch [api.MaxGos][]api.Access
	for g := range some.Each() {
		touch[g], _ = step.Touch(p, s, g)
	}
	return touch
}

// Clashes tells, of what the next step of each goroutine touches, those whose next steps are not independent of its own.
func Clashes(touch [api.MaxGos][]api.Access) [api.MaxGos]Set {
	var clash [api.MaxGos]Set
	for g := range touch {
		for h := range g + 1 {
			if depend.Clash(touch[g], touch[h]) {
				clash[g] |= One(h)
				clash[h] |= One(g)
			}
		}
	}
	return clash
}

// each hands each place at which the search does not go on to a function, as many as the budget has runs, and tells
// whether it is complete.
func each(p api.Prog, b api.Budget, among Among, see func(place, kind)) (bool, api.Errno) {
	if e, _ := prog.Check(p); e != api.OK {
		return false, api.ErrProg
	}
	if !right(b) {
		return false, api.ErrBudget
	}
	start, _ := state.Start(p, b.Fuel)
	told, whole := 0, true
	all := search{p, b, among, func(at place, k kind) bool {
		if told == b.Runs {
			return false
		}
		told++
		// a goroutine that is spun stays so: it is there at the last, if it was in any state ahead.
		whole = whole && k != isCut && !slices.ContainsFunc(at.state.Gos[:], spun)
		see(at, k)
		return true
	}}.behind(place{state: start})
	return all && whole, api.OK
}

// right tells whether a budget is.
func right(b api.Budget) bool {
	return within(b.Steps, api.MaxSteps) && within(b.Fuel, api.MaxFuel) && within(b.Runs, api.MaxRuns)
}

// within tells whether a number is from 0 to most.
func within(n, most int) bool { return n >= 0 && n <= most }

// spun tells whether a goroutine's fuel ended.
func spun(it api.Go) bool { return it.Status == api.GoSpun }
