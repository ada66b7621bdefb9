package goodlock_test

import (
	"slices"
	"testing"

	"scarab/api"
	"scarab/goodlock"
)

// held asks for the locks held ahead of an event.
func held(t *testing.T, what string, l []api.Event, i int, want ...int) {
	t.Helper()
	if got, e := goodlock.Held(l, i); !slices.Equal(got, want) || e != api.OK {
		t.Errorf("%s: %v %v, not %v", what, got, e, want)
	}
}

// 25.1: Held, of what takes a lock and what gives it back.
func TestHeld(t *testing.T) {
	held(t, "nothing ahead", []api.Event{lock(1, 0)}, 0)
	held(t, "behind a lock", []api.Event{lock(1, 0), unlock(1, 0)}, 1, 0)
	held(t, "behind an unlock", []api.Event{lock(1, 0), unlock(1, 0), lock(1, 0)}, 2)
	held(t, "another goroutine's", []api.Event{lock(1, 0), lock(2, 1)}, 1)
	held(t, "given back by another goroutine", []api.Event{lock(1, 0), unlock(2, 0), lock(1, 1)}, 2, 0)
	held(t, "rising", []api.Event{lock(1, 3), lock(1, 0), lock(1, 2), lock(1, 1), does(1, api.OpYield)}, 4, 0, 1, 2, 3)
	held(t, "taken twice, given back once", []api.Event{lock(1, 0), lock(1, 0), unlock(1, 0), lock(1, 1)}, 3)
	held(t, "given back, then taken", []api.Event{unlock(1, 0), lock(1, 0), lock(1, 1)}, 2, 0)
	held(t, "try that took", []api.Event{try(1, 2, 1), lock(1, 0)}, 1, 2)
	held(t, "try that did not", []api.Event{try(1, 2, 0), lock(1, 0)}, 1)
	held(t, "try of 2", []api.Event{try(1, 2, 2), try(1, 3, -1), lock(1, 0)}, 2)
	held(t, "a try of what is held", []api.Event{lock(1, 2), try(1, 2, 0), lock(1, 0)}, 2, 2)
	held(t, "a lock of Val 1, an unlock of Val 7", []api.Event{valued(lock(1, 1), 1), lock(1, 2), valued(unlock(1, 1), 7), lock(1, 0)}, 3, 2)
	held(t, "other operations with a lock", []api.Event{does(1, api.OpStore, w(2, 0)), does(1, api.OpNote, w(2, 1)), valued(does(1, api.OpSelect, w(2, 2)), 1), lock(1, 3)}, 3)
	held(t, "the lock behind a variable", []api.Event{does(1, api.OpLock, w(1, 3), w(2, 1)), lock(1, 0)}, 1, 1)
	held(t, "the first lock alone", []api.Event{does(1, api.OpLock, w(2, 1), w(2, 2)), lock(1, 0)}, 1, 1)
	held(t, "the first lock alone, given back", []api.Event{lock(1, 1), lock(1, 2), does(1, api.OpUnlock, w(2, 1), w(2, 2)), lock(1, 0)}, 3, 2)
	held(t, "a lock that is read", []api.Event{does(1, api.OpLock, r(2, 1)), lock(1, 0)}, 1, 1)
	held(t, "no lock at all", []api.Event{does(1, api.OpLock), does(1, api.OpTry, w(1, 0)), does(1, api.OpUnlock), lock(1, 0)}, 3)
	last := slices.Repeat([]api.Event{lock(5, 3)}, api.MaxSteps)
	held(t, "the last of all", last, api.MaxSteps-1, 3)
}

// valued is an event with another value.
func valued(x api.Event, val int64) api.Event {
	x.Val = val
	return x
}

// 25.1: Edges: by the event, then by the lock that is held; of locks alone, to another lock.
func TestEdges(t *testing.T) {
	type edge [4]int // From, To, Go, Event
	for _, x := range []struct {
		what string
		l    []api.Event
		want []edge
	}{
		{"none", nil, nil},
		{"one lock", nest(1, 0), nil},
		{"two", nest(4, 2, 1), []edge{{2, 1, 4, 1}}},
		{"four", nest(0, 3, 1, 2, 0), []edge{{3, 1, 0, 1}, {1, 2, 0, 2}, {3, 2, 0, 2}, {1, 0, 0, 3}, {2, 0, 0, 3}, {3, 0, 0, 3}}},
		{"of two goroutines", []api.Event{lock(1, 0), lock(2, 1), lock(1, 2), lock(2, 3)}, []edge{{0, 2, 1, 2}, {1, 3, 2, 3}}},
		{"the same again", slices.Concat(nest(1, 0, 1), nest(1, 0, 1)), []edge{{0, 1, 1, 1}, {0, 1, 1, 5}}},
		{"a try takes, and is no edge", []api.Event{lock(1, 0), try(1, 1, 1), lock(1, 2)}, []edge{{0, 2, 1, 2}, {1, 2, 1, 2}}},
		{"a try that did not take", []api.Event{try(1, 1, 0), lock(1, 2)}, nil},
		{"its own lock", []api.Event{lock(1, 0), lock(1, 1), lock(1, 0)}, []edge{{0, 1, 1, 1}, {1, 0, 1, 2}}},
		{"no lock touched", []api.Event{lock(1, 1), does(1, api.OpLock, w(1, 0))}, nil},
		{"to the first one alone", []api.Event{lock(1, 1), does(1, api.OpLock, w(2, 0), w(2, 3))}, []edge{{1, 0, 1, 1}}},
		{"an unlock", []api.Event{lock(1, 1), unlock(1, 0)}, nil},
	} {
		got, e := goodlock.Edges(x.l)
		if !slices.EqualFunc(got, x.want, func(g api.LockEdge, w edge) bool { return edge{g.From, g.To, g.Go, g.Event} == w }) || e != api.OK {
			t.Errorf("%s: %v %v, not %v", x.what, got, e, x.want)
		}
	}
}

// ringed asks for the rings, and for those of them that are guarded.
func ringed(t *testing.T, what string, l []api.Event, want [][]int, guarded ...[]int) {
	t.Helper()
	if got, e := goodlock.Rings(l); !slices.EqualFunc(got, want, slices.Equal) || e != api.OK {
		t.Errorf("%s: Rings: %v %v, not %v", what, got, e, want)
	}
	for _, ring := range want {
		is := slices.ContainsFunc(guarded, func(l []int) bool { return slices.Equal(l, ring) })
		if got, e := goodlock.Guarded(l, ring); got != is || e != api.OK {
			t.Errorf("%s: Guarded of %v: %v %v, not %v", what, ring, got, e, is)
		}
	}
}

// 25.2: rings of two locks.
func TestRingsOfTwo(t *testing.T) {
	one := [][]int{{0, 1}}
	ringed(t, "the example", slices.Concat(nest(1, 0, 1), nest(2, 1, 0)), one)
	ringed(t, "both hold lock 2", slices.Concat(nest(1, 2, 0, 1), nest(2, 2, 1, 0)), one, one[0])
	ringed(t, "one of both holds lock 2", slices.Concat(nest(1, 2, 0, 1), nest(2, 1, 0)), one)
	ringed(t, "they hold locks of their own", slices.Concat(nest(1, 2, 0, 1), nest(2, 3, 1, 0)), one)
	ringed(t, "one goroutine", slices.Concat(nest(1, 0, 1), nest(1, 1, 0)), nil)
	ringed(t, "the same way round", slices.Concat(nest(1, 0, 1), nest(2, 0, 1)), nil)
	ringed(t, "two ways, one of them guarded", slices.Concat(nest(1, 2, 0, 1), nest(2, 2, 1, 0), nest(3, 1, 0)), one)
	ringed(t, "guarded once, not another time", slices.Concat(nest(1, 2, 0, 1), nest(2, 2, 1, 0), nest(2, 1, 0)), one)
	ringed(t, "guarded by two", slices.Concat(nest(1, 2, 0, 1), nest(2, 2, 3, 1, 0), nest(3, 3, 0, 1)), one, one[0])
	ringed(t, "the free one is of one goroutine", slices.Concat(nest(1, 2, 0, 1), nest(1, 1, 0), nest(2, 2, 1, 0)), one, one[0])
	ringed(t, "each other one guarded", slices.Concat(nest(1, 2, 0, 1), nest(2, 2, 1, 0), nest(2, 0, 1)), one, one[0])
	ringed(t, "a guard that was given back", slices.Concat(nest(1, 2), nest(1, 0, 1), nest(2, 2), nest(2, 1, 0)), one)
	ringed(t, "a guard by a try", slices.Concat([]api.Event{try(1, 3, 1)}, nest(1, 0, 1), []api.Event{unlock(1, 3)}, nest(2, 3, 1, 0)), one, one[0])
	ringed(t, "the inner one by a try", slices.Concat(nest(1, 0, 1), []api.Event{lock(2, 1), try(2, 0, 1)}), nil)
	ringed(t, "the outer one by a try", slices.Concat(nest(1, 0, 1), []api.Event{try(2, 1, 1), lock(2, 0)}), one)
	ringed(t, "far locks", slices.Concat(nest(0, 3, 2), nest(5, 2, 3)), [][]int{{2, 3}})
	ringed(t, "within the other's time", []api.Event{lock(1, 0), lock(1, 1), unlock(1, 0), lock(2, 0), unlock(1, 1), lock(2, 1), lock(3, 1), lock(3, 0)}, one)
}

// 25.2: rings of three and four locks: each edge of another goroutine.
func TestLongRings(t *testing.T) {
	three := [][]int{{0, 1, 2}}
	ringed(t, "three", slices.Concat(nest(1, 0, 1), nest(2, 1, 2), nest(3, 2, 0)), three)
	ringed(t, "the other way round", slices.Concat(nest(1, 0, 2), nest(2, 2, 1), nest(3, 1, 0)), [][]int{{0, 2, 1}})
	ringed(t, "of two goroutines", slices.Concat(nest(1, 0, 1), nest(2, 1, 2), nest(1, 2, 0)), nil)
	ringed(t, "that are to be chosen well", slices.Concat(nest(1, 0, 1), nest(2, 0, 1), nest(3, 0, 1), nest(1, 1, 2), nest(2, 1, 2), nest(1, 2, 0)), three)
	ringed(t, "that can not be", slices.Concat(nest(1, 0, 1), nest(2, 0, 1), nest(1, 1, 2), nest(2, 1, 2), nest(1, 2, 0), nest(2, 2, 0)), [][]int{})
	ringed(t, "two hold lock 3", slices.Concat(nest(1, 3, 0, 1), nest(2, 1, 2), nest(3, 3, 2, 0)), three, three[0])
	ringed(t, "one holds lock 3", slices.Concat(nest(1, 3, 0, 1), nest(2, 1, 2), nest(3, 2, 0)), three)
	ringed(t, "two hold a lock of the ring", slices.Concat(nest(1, 0, 1), nest(2, 0, 1, 2), nest(3, 2, 0)), [][]int{{0, 1, 2}, {0, 2}}, three[0])
	four := [][]int{{0, 2, 1, 3}}
	ringed(t, "four", slices.Concat(nest(4, 0, 2), nest(3, 2, 1), nest(5, 1, 3), nest(0, 3, 0)), four)
	ringed(t, "four of three", slices.Concat(nest(4, 0, 2), nest(3, 2, 1), nest(5, 1, 3), nest(4, 3, 0)), nil)
	ringed(t, "four, two hold one", slices.Concat(nest(4, 0, 2), nest(3, 0, 2, 1), nest(5, 1, 3), nest(0, 3, 0)), [][]int{{0, 1, 3}, {0, 2, 1, 3}}, four[0])
}

// 25.2: all rings that there may be, in the order of lists: a list ahead of those that it begins.
func TestAllRings(t *testing.T) {
	all := [][]int{{0, 1}, {0, 1, 2}, {0, 1, 2, 3}, {0, 1, 3}, {0, 1, 3, 2}, {0, 2}, {0, 2, 1}, {0, 2, 1, 3}, {0, 2, 3}, {0, 2, 3, 1},
		{0, 3}, {0, 3, 1}, {0, 3, 1, 2}, {0, 3, 2}, {0, 3, 2, 1}, {1, 2}, {1, 2, 3}, {1, 3}, {1, 3, 2}, {2, 3}}
	ringed(t, "four goroutines", every(0, 1, 2, 5), all)
	few := func(n int) [][]int {
		return slices.DeleteFunc(slices.Clone(all), func(l []int) bool { return len(l) > n })
	}
	ringed(t, "three goroutines", every(0, 3, 5), few(3))
	ringed(t, "two goroutines", every(1, 2), few(2))
	ringed(t, "one goroutine", every(1), nil)
}
