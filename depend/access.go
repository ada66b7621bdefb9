package depend

import (
	"slices"

	"scarab/api"
)

// few is how many accesses at most one of two lists has whose pairs are gone through: of two longer lists, which no step
// has, there would be too many.
const few = 4 * api.MaxTouch

// object is an access but for whether it writes: the same of two just if both are of one object.
func object(a api.Access) api.Access {
	a.Write = false
	return a
}

// How an object is touched: the greater one counts.
const (
	read    = 1
	written = 2
)

// how is how an access touches its object.
func how(a api.Access) int {
	if a.Write {
		return written
	}
	return read
}

// meet tells what Clash tells, of lists of any length.
func meet(a, b []api.Access) bool {
	touched := map[api.Access]int{}
	for _, x := range a {
		touched[object(x)] = max(touched[object(x)], how(x))
	}
	for _, y := range b {
		if was := touched[object(y)]; was > 0 && max(was, how(y)) == written {
			return true
		}
	}
	return false
}

// touches is how many accesses an event has, whatever it says.
func touches(x api.Event) int { return max(0, min(x.Touches, api.MaxTouch)) }

// right tells whether an event may stand in a trace.
func right(x api.Event) bool {
	if x.Go < 0 || x.Go >= api.MaxGos || x.Touches < 1 || x.Touches > api.MaxTouch {
		return false
	}
	l, rest := x.Touch[:x.Touches], x.Touch[x.Touches:]
	for i, a := range l {
		if a.Num < 0 || a.Num >= many(a.Kind) || i > 0 && compare(l[i-1], a) >= 0 {
			return false
		}
	}
	for _, a := range rest {
		if a != (api.Access{}) {
			return false
		}
	}
	return slices.Contains(l, api.Access{Kind: api.ObGo, Num: x.Go, Write: true})
}

// many is how many objects of a kind there may be, 0 of what is no kind.
func many(kind int) int {
	switch kind {
	case api.ObVar:
		return api.MaxVars
	case api.ObLock:
		return api.MaxLocks
	case api.ObChan:
		return api.MaxChans
	case api.ObGos, api.ObNotes:
		return 1
	case api.ObGo:
		return api.MaxGos
	}
	return 0
}
