package goodlock_test

import (
	"cmp"
	"slices"
	"testing"

	"scarab/api"
	"scarab/canon"
	"scarab/goodlock"
	"scarab/order"
	"scarab/race"
	"scarab/sched"
	"scarab/tree"
	"scarab/verdict"
)

// drawn is an order of a trace that keeps what happens before what: each next one is drawn among those that may come.
func drawn(t *testing.T, l []api.Event, seed uint64) []int {
	t.Helper()
	draw := draws(seed)
	pasts := make([][]int, len(l))
	for i := range l {
		past, e := order.Past(l, i)
		if e != api.OK {
			t.Fatal(e)
		}
		pasts[i] = past
	}
	var way []int
	for range l {
		var free []int
		for i := range l {
			if !slices.Contains(way, i) && !slices.ContainsFunc(pasts[i], func(k int) bool { return !slices.Contains(way, k) }) {
				free = append(free, i)
			}
		}
		way = append(way, free[draw(len(free))])
	}
	return way
}

// alike asks that a trace in an order that keeps what happens before what has the same edges but for their places, the same
// rings and the same guards; it tells how many edges and rings there are.
func alike(t *testing.T, l []api.Event, way []int) (int, int) {
	t.Helper()
	other, e := canon.Apply(l, way)
	if e != api.OK {
		t.Fatal(e)
	}
	edges, _ := goodlock.Edges(l)
	moved, e := goodlock.Edges(other)
	for k := range moved {
		moved[k].Event = way[moved[k].Event]
	}
	slices.SortFunc(moved, func(a, b api.LockEdge) int { return cmp.Or(cmp.Compare(a.Event, b.Event), cmp.Compare(a.From, b.From)) })
	if !slices.Equal(edges, moved) || e != api.OK {
		t.Errorf("Edges: %v, %v %v", edges, moved, e)
	}
	rings, _ := goodlock.Rings(l)
	if got, e := goodlock.Rings(other); !slices.EqualFunc(got, rings, slices.Equal) || e != api.OK {
		t.Errorf("Rings: %v, %v %v", rings, got, e)
	}
	for _, ring := range rings {
		a, _ := goodlock.Guarded(l, ring)
		b, e := goodlock.Guarded(other, ring)
		if a != b || e != api.OK {
			t.Errorf("Guarded of %v: %v, %v %v", ring, a, b, e)
		}
	}
	return len(edges), len(rings)
}

// 25.3: equivalent traces have the same edges but for their places, the same rings, the same guards.
func TestEquivalent(t *testing.T) {
	edges, rings, turned := 0, 0, 0
	for seed, l := range traces(t, 60) {
		way := drawn(t, l, uint64(seed))
		n, m := alike(t, l, way)
		edges, rings = edges+n, rings+m
		if !slices.IsSorted(way) {
			turned++
		}
	}
	if edges < 300 || rings < 50 || turned < 50 {
		t.Errorf("%d edges, %d rings, %d in another order", edges, rings, turned)
	}
}

// P7, 25.3: where two events race, by clocks and so by their neighbourhood, the trace in which they stand side by side tells
// the same of locks.
func TestBeside(t *testing.T) {
	edges, moved := 0, 0
	for _, l := range traces(t, 40) {
		pairs, _ := race.Pairs(l)
		for _, pair := range pairs[:min(len(pairs), 6)] {
			clocked, _ := race.Clocked(l, pair[0], pair[1])
			way, is, e := race.Beside(l, pair[0], pair[1])
			if !clocked || !is || e != api.OK {
				t.Fatalf("%v: %v, %v %v", pair, clocked, is, e)
			}
			n, _ := alike(t, l, way)
			edges += n
			if !slices.IsSorted(way) {
				moved++
			}
		}
	}
	if edges < 100 || moved < 30 {
		t.Errorf("%d edges, %d in another order", edges, moved)
	}
}

// 25.3: a trace of one goroutine has no rings.
func TestOneGoroutine(t *testing.T) {
	edges := 0
	for _, l := range append(traces(t, 100), longest()...) {
		for g := range api.MaxGos {
			alone := slices.DeleteFunc(slices.Clone(l), func(x api.Event) bool { return x.Go != g })
			if rings, e := goodlock.Rings(alone); len(rings) > 0 || e != api.OK {
				t.Errorf("of goroutine %d: %v %v", g, rings, e)
			}
			some, _ := goodlock.Edges(alone)
			edges += len(some)
		}
	}
	if edges < 300 {
		t.Errorf("only %d edges", edges)
	}
}

// 25.4: in a trace that the machine made an event's own lock is none of those held ahead of a taking of it.
func TestOwnLock(t *testing.T) {
	n, others := 0, 0
	for _, l := range runs(t, 400) {
		for i, x := range l {
			held, e := goodlock.Held(l, i)
			if e != api.OK {
				t.Fatal(e)
			}
			if own := lockIn(x); own >= 0 && takes(x, own) {
				n++
				others += len(held)
				if slices.Contains(held, own) {
					t.Errorf("event %d takes %d while it holds %v", i, own, held)
				}
			}
		}
	}
	if n < 500 || others < 100 {
		t.Errorf("%d takings, %d others held", n, others)
	}
}

// Two goroutines that take two locks, each first the other one's second.
const crossed = `scarab
mutex
mutex
func 0 0
  spawn _ f1 r0
  lock l0
  lock l1
  unlock l1
  unlock l0
  end
func 0 0
  lock l1
  lock l0
  unlock l0
  unlock l1
  end`

// The same, with a third lock round both.
const gated = `scarab
mutex
mutex
mutex
func 0 0
  spawn _ f1 r0
  lock l2
  lock l0
  lock l1
  unlock l1
  unlock l0
  unlock l2
  end
func 0 0
  lock l2
  lock l1
  lock l0
  unlock l0
  unlock l1
  unlock l2
  end`

// The whole's example 5: tree finds the deadlock; in each run that ends well it is foretold. With a lock round both, the ring
// is guarded, and tree finds no deadlock.
func TestForetold(t *testing.T) {
	b := api.Budget{Steps: 40, Fuel: 10, Runs: 5000}
	for _, x := range []struct {
		text    string
		guarded bool
	}{{crossed, false}, {gated, true}} {
		p := parsed(t, x.text)
		all, e := tree.All(p, b)
		if e != api.OK || !all.Complete {
			t.Fatal(e, all.Complete)
		}
		well, stuck := 0, 0
		for _, run := range all.All {
			found, _ := verdict.Of(p, run.Picks, b)
			if len(found) > 0 {
				stuck++
				continue
			}
			well++
			trace, _, _ := sched.Run(p, run.Picks, b)
			rings, e := goodlock.Rings(trace.Events)
			is, f := goodlock.Guarded(trace.Events, []int{0, 1})
			if len(rings) != 1 || !slices.Equal(rings[0], []int{0, 1}) || e != api.OK || is != x.guarded || f != api.OK {
				t.Errorf("%v: %v %v, guarded %v %v", run.Picks, rings, e, is, f)
			}
		}
		if well == 0 || (stuck > 0) == x.guarded {
			t.Errorf("%d end well, %d do not", well, stuck)
		}
	}
}
