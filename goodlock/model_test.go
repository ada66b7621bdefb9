package goodlock_test

import (
	"slices"
	"testing"

	"scarab/api"
	"scarab/goodlock"
)

// The words of the chapter, worked out anew: each by itself, without anything that is kept.

// lockIn is the first lock that an event touches, -1 if there is none.
func lockIn(x api.Event) int {
	for _, a := range x.Touch {
		if a.Kind == api.ObLock {
			return a.Num
		}
	}
	return -1
}

// takes tells whether an event takes a lock, gives whether it gives it back.
func takes(x api.Event, n int) bool {
	return lockIn(x) == n && (x.Op == api.OpLock || x.Op == api.OpTry && x.Val == 1)
}

func gives(x api.Event, n int) bool { return lockIn(x) == n && x.Op == api.OpUnlock }

// holds tells whether an event's goroutine holds a lock ahead of it: going back, a taking comes ahead of a giving back.
func holds(t []api.Event, i, n int) bool {
	for k := i - 1; k >= 0; k-- {
		if t[k].Go != t[i].Go {
			continue
		}
		if takes(t[k], n) {
			return true
		}
		if gives(t[k], n) {
			return false
		}
	}
	return false
}

// edgesOf are all edges of a trace.
func edgesOf(t []api.Event) []api.LockEdge {
	var l []api.LockEdge
	for i, x := range t {
		for from := range api.MaxLocks {
			to := lockIn(x)
			if x.Op == api.OpLock && to >= 0 && from != to && holds(t, i, from) {
				l = append(l, api.LockEdge{From: from, To: to, Go: x.Go, Event: i})
			}
		}
	}
	return l
}

// chosen tells whether edges can be chosen for a ring, of unlike goroutines; apart: such that no lock is held ahead of two.
func chosen(t []api.Event, edges []api.LockEdge, ring []int, apart bool, l ...api.LockEdge) bool {
	k := len(l)
	if k == len(ring) {
		return true
	}
	for _, x := range edges {
		if x.From != ring[k] || x.To != ring[(k+1)%len(ring)] {
			continue
		}
		bad := false
		for _, y := range l {
			bad = bad || x.Go == y.Go
			for n := range api.MaxLocks {
				bad = bad || apart && holds(t, x.Event, n) && holds(t, y.Event, n)
			}
		}
		if !bad && chosen(t, edges, ring, apart, append(slices.Clone(l), x)...) {
			return true
		}
	}
	return false
}

// lists are all lists of two or more locks, each once, that begin with their least, in the order of lists.
func lists() [][]int {
	var l [][]int
	for n := range 256 * 3 { // each list of 2, 3 or 4 numbers below 4, some of them twice
		x := []int{n / 3 >> 6 & 3, n / 3 >> 4 & 3, n / 3 >> 2 & 3, n / 3 & 3}[:2+n%3]
		sorted := slices.Sorted(slices.Values(x))
		if slices.Min(x) == x[0] && len(slices.Compact(sorted)) == len(x) {
			l = append(l, x)
		}
	}
	slices.SortFunc(l, slices.Compare)
	return slices.CompactFunc(l, slices.Equal)
}

// asked asks of a trace all that the calls tell, by the words of the chapter; it tells the rings, and which are guarded.
func asked(t *testing.T, what string, l []api.Event) ([][]int, []bool) {
	t.Helper()
	for i := range l {
		var want []int
		for n := range api.MaxLocks {
			if holds(l, i, n) {
				want = append(want, n)
			}
		}
		if got, e := goodlock.Held(l, i); !slices.Equal(got, want) || e != api.OK {
			t.Errorf("%s: Held at %d: %v %v, not %v", what, i, got, e, want)
		}
	}
	edges := edgesOf(l)
	if got, e := goodlock.Edges(l); !slices.Equal(got, edges) || e != api.OK {
		t.Errorf("%s: Edges: %v %v, not %v", what, got, e, edges)
	}
	var rings [][]int
	var guarded []bool
	for _, ring := range lists() {
		is, e := goodlock.Guarded(l, ring)
		if !chosen(l, edges, ring, false) {
			if is || e != api.ErrNone {
				t.Errorf("%s: Guarded of %v, which is none: %v %v", what, ring, is, e)
			}
			continue
		}
		want := !chosen(l, edges, ring, true)
		if is != want || e != api.OK {
			t.Errorf("%s: Guarded of %v: %v %v, not %v", what, ring, is, e, want)
		}
		rings, guarded = append(rings, ring), append(guarded, want)
	}
	if got, e := goodlock.Rings(l); !slices.EqualFunc(got, rings, slices.Equal) || e != api.OK {
		t.Errorf("%s: Rings: %v %v, not %v", what, got, e, rings)
	}
	return rings, guarded
}

// 25.1, 25.2: all that the calls tell of sampled traces is what the words say.
func TestWords(t *testing.T) {
	if n := len(lists()); n != 6+8+6 {
		t.Fatalf("%d lists", n)
	}
	var told [api.MaxLocks + 1][2]int
	l := append(traces(t, 150), longest()...)
	for seed := range uint64(400) {
		l = append(l, nests(1000+seed, 8+int(seed%8))) // rings of four are rare
	}
	for _, l := range l {
		rings, guarded := asked(t, "a sampled trace", l)
		for k, ring := range rings {
			if guarded[k] {
				told[len(ring)][1]++
			} else {
				told[len(ring)][0]++
			}
		}
	}
	for n := 2; n <= api.MaxLocks; n++ {
		if min(told[n][0], told[n][1]) < 3 {
			t.Errorf("rings that are not guarded, and that are: %v", told)
		}
	}
}
