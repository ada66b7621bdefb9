package dpor

import (
	"iter"
	"slices"

	"scarab/api"
	"scarab/depend"
	"scarab/doze"
	"scarab/state"
)

// event is an event of a goroutine, with what it touched, and its clock: of each goroutine how many of its events are this
// one or happen before it.
type event struct {
	who   int
	touch []api.Access
	clock api.Clock
}

// in tells whether an event is among the first ones of each goroutine, as many as a clock tells.
func (x event) in(c api.Clock) bool { return x.clock[x.who] <= c[x.who] }

// past is what picks did: their events, and of each goroutine how many of each one's are behind it. That is enough, since
// with an event all that happen before it are behind a goroutine, those of its own goroutine among them.
type past struct {
	events []event
	behind [api.MaxGos]api.Clock
}

// with is a past with one event more. The list of events is written over, if it is called twice of one past.
func (x past) with(e api.Event) past {
	it := event{e.Go, e.Touch[:e.Touches], x.behind[e.Go]}
	for _, old := range slices.Backward(x.events) {
		if !old.in(it.clock) && depend.Clash(old.touch, it.touch) {
			it.clock = join(it.clock, old.clock)
		}
	}
	it.clock[e.Go]++
	x.behind[e.Go] = it.clock
	// a spawn that fails tells 0, which is main's number.
	if e.Op == api.OpSpawn && e.Val > 0 {
		x.behind[e.Val] = it.clock
	}
	x.events = append(x.events, it)
	return x
}

// join is the greater number of two clocks, of each goroutine.
func join(a, b api.Clock) api.Clock {
	for g := range a {
		a[g] = max(a[g], b[g])
	}
	return a
}

// next is what the next steps of a state's live goroutines touch; nothing of the others.
func next(p api.Prog, s api.State) [api.MaxGos][]api.Access {
	var live doze.Set
	for _, g := range state.Live(s) {
		live |= doze.One(g)
	}
	return doze.Touches(p, s, live)
}

// races hands out the goroutines that have a race, rising, each with it, by what their next steps touch.
func (x past) races(touch [api.MaxGos][]api.Access) iter.Seq2[int, int] {
	return func(yield func(int, int) bool) {
		for g := range touch {
			if i := x.race(g, touch[g]); i >= 0 && !yield(g, i) {
				return
			}
		}
	}
}

// race is the place of the last event that is not behind a goroutine, and that its next step depends on; -1, if there is
// none.
func (x past) race(g int, touch []api.Access) int {
	for i, e := range slices.Backward(x.events) {
		if !e.in(x.behind[g]) && depend.Clash(e.touch, touch) {
			return i
		}
	}
	return -1
}

// since is a goroutine, with those that have an event from a place on that is behind it.
func (x past) since(i, g int) doze.Set {
	set := doze.One(g)
	for _, e := range x.events[i:] {
		if e.in(x.behind[g]) {
			set |= doze.One(e.who)
		}
	}
	return set
}
