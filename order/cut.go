package order

import (
	"slices"

	"scarab/api"
)

// set is a set of places.
type set [api.MaxSteps]bool

// setOf is the set of places that are right; one may stand there twice.
func setOf(places []int) set {
	var s set
	for _, i := range places {
		s[i] = true
	}
	return s
}

// list are a set's places, rising.
func (s set) list() []int {
	var l []int
	for i, is := range s {
		if is {
			l = append(l, i)
		}
	}
	return l
}

// Linear tells whether an order of the events keeps what happens before what.
func Linear(t []api.Event, order []int) (bool, api.Errno) {
	r, e := look(t, order...)
	switch {
	case e != api.OK:
		return false, e
	case len(order) != len(t) || len(setOf(order).list()) != len(t):
		return false, api.ErrArg
	}
	at := make([]int, len(t))
	for k, i := range order {
		at[i] = k
	}
	// what happens before what follows from the edges: they alone need to be kept.
	for _, pair := range r.edges {
		if placed(pair, at) != pair {
			return false, api.OK
		}
	}
	return true, api.OK
}

// placed is a pair, with that one first which an order has first; at tells where the order has each.
func placed(pair [2]int, at []int) [2]int {
	if at[pair[0]] > at[pair[1]] {
		return [2]int{pair[1], pair[0]}
	}
	return pair
}

// Cut tells whether events have all of their past among them.
func Cut(t []api.Event, places []int) (bool, api.Errno) {
	r, e := look(t, places...)
	if e != api.OK {
		return false, e
	}
	s := setOf(places)
	return r.closed(s) == s, api.OK
}

// Closed are events with all of their past.
func Closed(t []api.Event, places []int) ([]int, api.Errno) {
	r, e := look(t, places...)
	if e != api.OK {
		return nil, e
	}
	return r.closed(setOf(places)).list(), api.OK
}

// closed is the least cut that has a set.
func (r relation) closed(s set) set {
	// from the end on, each event is in it or not for good by the time that the edges to it are come to.
	for _, pair := range slices.Backward(r.edges) {
		s[pair[0]] = s[pair[0]] || s[pair[1]]
	}
	return s
}
