package order

import (
	"slices"

	"scarab/api"
	"scarab/clock"
	"scarab/depend"
)

// relation is what happens before what in a trace: its events' clocks, and its edges, by their later event.
type relation struct {
	events []api.Event
	clocks []api.Clock
	edges  [][2]int
}

// look is the relation of events of which places are asked for; or what is wrong with the events, or else the places.
func look(t []api.Event, places ...int) (relation, api.Errno) {
	if e := depend.Check(t); e != api.OK {
		return relation{}, e
	}
	if len(places) > api.MaxSteps {
		return relation{}, api.ErrLong
	}
	for _, i := range places {
		if i < 0 || i >= len(t) {
			return relation{}, api.ErrArg
		}
	}
	r := relation{events: t}
	for j := range t {
		r.add(j)
	}
	return r, api.OK
}

// add tells of the event j, all events ahead of it being told.
func (r *relation) add(j int) {
	var now api.Clock // neither call of clock can fail: a clock counts at most MaxSteps events
	for i, x := range slices.Backward(r.events[:j]) {
		// an event that is counted by now happens before one that is come to already: there is no edge from it.
		if r.clocks[i][x.Go] <= now[x.Go] || !depend.Dependent(x, r.events[j]) {
			continue
		}
		now, _ = clock.Join(now, r.clocks[i])
		r.edges = append(r.edges, [2]int{i, j})
	}
	now, _ = clock.Tick(now, r.events[j].Go)
	r.clocks = append(r.clocks, now)
}

// before tells whether i happens before j, by their clocks.
func (r relation) before(i, j int) bool {
	g := r.events[i].Go
	return i < j && r.clocks[i][g] <= r.clocks[j][g]
}
