package goodlock

import (
	"slices"

	"scarab/api"
	"scarab/locks"
)

// taking is what matters of an edge beside its locks: whose it is, and all that is held ahead of its event.
type taking struct {
	by   int
	held locks.Set
}

// unlike tells whether takings are of two goroutines.
func unlike(a, b taking) bool { return a.by != b.by }

// apart tells whether takings are of two goroutines that hold no lock in common.
func apart(a, b taking) bool { return unlike(a, b) && a.held.Meet(b.held) == (locks.Set{}) }

// takings are the unlike takings of a trace's edges, by the lock that is held and by the one that is taken.
type takings [api.MaxLocks][api.MaxLocks][]taking

// takingsOf are the takings of a trace.
func takingsOf(t []api.Event) *takings {
	var all takings
	held := locks.Ahead(t)
	for _, edge := range edges(t, held) {
		l := &all[edge.From][edge.To]
		if x := (taking{edge.Go, held[edge.Event]}); !slices.Contains(*l, x) {
			*l = append(*l, x)
		}
	}
	return &all
}

// rings are all rings, in the order of lists.
func (all *takings) rings() [][]int {
	var l [][]int
	for least := range api.MaxLocks {
		l = all.grow(l, []int{least})
	}
	return l
}

// grow puts the rings that begin with a list of locks behind l: the list itself comes first, then those with a further
// lock, so that they stand in the order of lists.
func (all *takings) grow(l [][]int, begin []int) [][]int {
	if len(begin) > 1 && all.choose(begin, nil, unlike) {
		l = append(l, slices.Clone(begin))
	}
	for next := begin[0] + 1; next < api.MaxLocks; next++ {
		if !slices.Contains(begin, next) {
			l = all.grow(l, append(begin, next))
		}
	}
	return l
}

// choose tells whether takings can be chosen, one from each lock of a ring to the next one, each two of which a function says
// yes to; those for its first locks are chosen.
func (all *takings) choose(ring []int, chosen []taking, yes func(a, b taking) bool) bool {
	n := len(chosen)
	if n == len(ring) {
		return true
	}
	for _, x := range all[ring[n]][ring[(n+1)%len(ring)]] {
		no := slices.ContainsFunc(chosen, func(y taking) bool { return !yes(x, y) })
		if !no && all.choose(ring, append(chosen, x), yes) {
			return true
		}
	}
	return false
}
