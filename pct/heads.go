package pct

import (
	"slices"

	"scarab/api"
	"scarab/sched"
	"scarab/step"
)

// heads are of each goroutine 1 more than its first alternative in a state, 0 if it is not ready.
type heads [api.MaxGos]int8

// headsOf are the heads of a state.
func headsOf(p api.Prog, s api.State) heads {
	var h heads
	ready, _ := step.Ready(p, s)
	// from the end on: of each goroutine the first alternative is what stays.
	for _, pick := range slices.Backward(ready) {
		h[pick.Go] = int8(pick.Alt + 1)
	}
	return h
}

// none tells whether nothing is ready.
func (h heads) none() bool { return h == heads{} }

// track is a legal schedule, with the heads ahead of each of its picks, and behind the last one.
type track struct {
	picks []api.Pick
	heads []heads
}

// follow is the track of picks, or what is wrong with them.
func follow(p api.Prog, picks []api.Pick, b api.Budget) (track, api.Errno) {
	states, e := sched.States(p, picks, b)
	if e != api.OK {
		return track{}, e
	}
	t := track{picks: picks}
	for _, s := range states {
		t.heads = append(t.heads, headsOf(p, s))
	}
	return t, api.OK
}

// whole tells whether a run of at most so many steps may end where the track does.
func (t track) whole(steps int) bool {
	n := len(t.picks)
	return n == steps || t.heads[n].none()
}

// runBy tells whether a run goes along the track from a place on, by an order with changes left.
func (t track) runBy(q queue, at, left int) bool {
	if at == len(t.picks) {
		return true
	}
	for q, left := range q.turns(at, left, t.heads[at]) {
		if q.pick(t.heads[at]) == t.picks[at] && t.runBy(q, at+1, left) {
			return true
		}
	}
	return false
}
