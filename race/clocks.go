package race

import (
	"iter"

	"scarab/api"
	"scarab/clock"
	"scarab/depend"
	"scarab/order"
)

// look are the clocks of events of which places are asked for; or what is wrong with the events, or else the places.
func look(t []api.Event, places ...int) ([]api.Clock, api.Errno) {
	clocks, e := order.Clocks(t)
	if e != api.OK {
		return nil, e
	}
	for _, i := range places {
		if i < 0 || i >= len(t) {
			return nil, api.ErrArg
		}
	}
	return clocks, api.OK
}

// counts tells whether a clock counts an event of a goroutine whose own clock is handed in.
func counts(now, own api.Clock, g int) bool { return own[g] <= now[g] }

// Clocked tells by clocks whether two events race.
func Clocked(t []api.Event, i, j int) (bool, api.Errno) {
	clocks, e := look(t, i, j)
	if e != api.OK || i >= j || t[i].Go == t[j].Go || !depend.Dependent(t[i], t[j]) {
		return false, e
	}
	var others []api.Clock
	for k, x := range t[:j] {
		if k != i && depend.Dependent(x, t[j]) {
			others = append(others, clocks[k])
		}
	}
	all, e := clock.Joined(others)
	return e == api.OK && !counts(all, clocks[i], t[i].Go), e
}

// Beside is an order in which two events stand side by side.
func Beside(t []api.Event, i, j int) ([]int, bool, api.Errno) {
	clocks, e := look(t, i, j)
	if e != api.OK || i >= j {
		return nil, false, e
	}
	before := func(a, b int) bool { return a < b && counts(clocks[b], clocks[a], t[a].Go) }
	var ahead, behind []int
	for k := range t {
		switch {
		case k == i || k == j:
		case !before(k, i) && !before(k, j):
			behind = append(behind, k)
		case before(i, k):
			return nil, false, api.OK // it stands between both, wherever they stand
		default:
			ahead = append(ahead, k)
		}
	}
	return append(append(ahead, i, j), behind...), true, api.OK
}

// Conflicts are pairs that nothing but plain variables orders.
func Conflicts(p api.Prog, t []api.Event) ([][2]int, api.Errno) {
	v, e := checked(p, t)
	if e != api.OK {
		return nil, e
	}
	clocks, e := order.Clocks(v.without(t))
	if e != api.OK {
		return nil, e
	}
	return put(allPairs(len(t)), func(i, j int) bool {
		// two events of one goroutine synchronise: they are no conflict.
		return !counts(clocks[j], clocks[i], t[i].Go) && v.clash(t[i], t[j])
	}), api.OK
}

// allPairs hands out all pairs of n places, the lesser one first: by that, then by the other one.
func allPairs(n int) iter.Seq[[2]int] {
	return func(yield func([2]int) bool) {
		for i := range n {
			for j := i + 1; j < n; j++ {
				if !yield([2]int{i, j}) {
					return
				}
			}
		}
	}
}
