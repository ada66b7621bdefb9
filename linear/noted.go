package linear

import (
	"scarab/api"
	"scarab/depend"
)

// What a note does to an operation: the last digit of its tag.
const (
	begins   = 1
	ends     = 2
	endsBare = 3 // a take that found nothing
)

// parts are the operation that a tag speaks of, and what it does to it; false, if it says nothing.
func parts(tag int64) (do, what int, ok bool) {
	if tag < 10*api.DoRead || tag > 10*api.DoTake+endsBare {
		return 0, 0, false
	}
	do, what = int(tag/10), int(tag%10)
	return do, what, what == begins || what == ends || what == endsBare && do == api.DoTake
}

// noted is a history as far as notes have told it, and of each goroutine the place of its last operation, -1 at first.
type noted struct {
	calls []api.Call
	last  [api.MaxGos]int
}

// open is a goroutine's operation that did not end, nil if there is none.
func (n *noted) open(g int) *api.Call {
	if n.last[g] < 0 || !pending(n.calls[n.last[g]]) {
		return nil
	}
	return &n.calls[n.last[g]]
}

// begin takes a note that begins an operation, if it may.
func (n *noted) begin(g, do int, val int64, moment int) bool {
	if n.open(g) != nil || len(n.calls) == MaxCalls {
		return false
	}
	x := api.Call{Go: g, Do: do, Begin: moment, End: -1}
	if takesIn(do) {
		x.In = val
	}
	n.last[g] = len(n.calls)
	n.calls = append(n.calls, x)
	return true
}

// end takes a note that ends an operation, if it may.
func (n *noted) end(g, do int, val int64, bare bool, moment int) bool {
	x := n.open(g)
	if x == nil || x.Do != do {
		return false
	}
	x.End, x.Empty = moment, bare
	if tellsOut(do) && !bare {
		x.Out = val
	}
	return true
}

// note takes an event at a place, if it may be.
func (n *noted) note(x api.Event, place int) bool {
	do, what, ok := parts(x.Tag)
	switch {
	case !ok || x.Op != api.OpNote:
		return true
	case what == begins:
		return n.begin(x.Go, do, x.Val, 2*place)
	}
	return n.end(x.Go, do, x.Val, what == endsBare, 2*place)
}

// Noted is the history that a trace's notes tell.
func Noted(t []api.Event) ([]api.Call, api.Errno) {
	if e := depend.Check(t); e != api.OK {
		return nil, e
	}
	var n noted
	for g := range n.last {
		n.last[g] = -1
	}
	for i, x := range t {
		if !n.note(x, i) {
			return nil, api.ErrHist
		}
	}
	return n.calls, api.OK
}
