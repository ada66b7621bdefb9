package canon

import (
	"iter"

	"scarab/api"
	"scarab/order"
)

// pasts are a trace's events by goroutine, and the clock of each, which says what must stand ahead of it.
type pasts struct {
	events []api.Event
	clocks []api.Clock
	places [api.MaxGos][]int
}

// look is what stands ahead of what in a trace; or what is wrong with it.
func look(t []api.Event) (pasts, api.Errno) {
	clocks, e := order.Clocks(t)
	if e != api.OK {
		return pasts{}, e
	}
	return pasts{t, clocks, byGo(t)}, api.OK
}

// byGo are the places of each goroutine's events in a trace, rising.
func byGo(t []api.Event) [api.MaxGos][]int {
	var places [api.MaxGos][]int
	for i, x := range t {
		places[x.Go] = append(places[x.Go], i)
	}
	return places
}

// free hands out, by goroutine, the events that may come next behind a cut, which is told as how many events of each
// goroutine it has.
func (p pasts) free(cut api.Clock) iter.Seq[int] {
	return func(yield func(int) bool) {
		for g, l := range p.places {
			if cut[g] < len(l) && p.within(l[cut[g]], cut) && !yield(l[cut[g]]) {
				return
			}
		}
	}
}

// within tells whether a cut has all of an event's past, the event being its goroutine's next one.
func (p pasts) within(i int, cut api.Clock) bool {
	cut[p.events[i].Go]++ // an event's clock counts itself
	for g, n := range p.clocks[i] {
		if n > cut[g] {
			return false
		}
	}
	return true
}

// further are the cuts with one event more, with how many ways there are to come to each, and to all.
func (p pasts) further(ways map[api.Clock]int) (map[api.Clock]int, int) {
	next, sum := map[api.Clock]int{}, 0
	for cut, n := range ways {
		for i := range p.free(cut) {
			longer := cut
			longer[p.events[i].Go]++
			next[longer] += n
			sum += n
		}
	}
	return next, sum
}
