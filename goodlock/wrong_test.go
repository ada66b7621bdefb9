package goodlock_test

import (
	"math"
	"slices"
	"testing"

	"scarab/api"
	"scarab/goodlock"
	"scarab/sample"
)

// refused asks that all calls tell an error of events, and nothing else, whatever comes behind these.
func refused(t *testing.T, what string, l []api.Event, want api.Errno) {
	t.Helper()
	if r, e := goodlock.Edges(l); len(r) > 0 || e != want {
		t.Errorf("%s: Edges: %v %v, not %v", what, r, e, want)
	}
	if r, e := goodlock.Rings(l); len(r) > 0 || e != want {
		t.Errorf("%s: Rings: %v %v, not %v", what, r, e, want)
	}
	for _, i := range []int{0, -1, len(l), math.MaxInt} {
		if r, e := goodlock.Held(l, i); len(r) > 0 || e != want {
			t.Errorf("%s: Held at %d: %v %v, not %v", what, i, r, e, want)
		}
	}
	for _, ring := range [][]int{nil, {0, 1}, {1, 0}, make([]int, api.MaxLocks+1)} {
		if is, e := goodlock.Guarded(l, ring); is || e != want {
			t.Errorf("%s: Guarded of %v: %v %v, not %v", what, ring, is, e, want)
		}
	}
}

// 25.1, 25.2, R1: events that are no trace are told first.
func TestWrongEvents(t *testing.T) {
	good := slices.Concat(nest(1, 0, 1), nest(2, 1, 0))
	many := slices.Repeat(good[:1], api.MaxSteps+1)
	bad := func(l []api.Event) []api.Event {
		l = slices.Clone(l)
		l[len(l)-1].Touches = 0
		return l
	}
	refused(t, "one more", many, api.ErrLong)
	refused(t, "one more, the last one wrong", bad(many), api.ErrLong)
	refused(t, "far more", make([]api.Event, 1<<14), api.ErrLong)
	refused(t, "the last one wrong", bad(many[1:]), api.ErrTrace)
	refused(t, "nothing touched", []api.Event{{}}, api.ErrTrace)
	refused(t, "no goroutine", append(slices.Clone(good), lock(6, 0)), api.ErrTrace)
	refused(t, "no goroutine below", append(slices.Clone(good), lock(-1, 0)), api.ErrTrace)
	refused(t, "no lock", append(slices.Clone(good), lock(1, api.MaxLocks)), api.ErrTrace)
	refused(t, "below all locks", append(slices.Clone(good), lock(1, -1)), api.ErrTrace)
	refused(t, "a lock twice", append(slices.Clone(good), does(1, api.OpLock, w(2, 0), w(2, 0))), api.ErrTrace)
	refused(t, "more touched than there may be", []api.Event{{Touches: 7}}, api.ErrTrace)
	refused(t, "less touched", []api.Event{{Touches: -1}}, api.ErrTrace)
}

// 25.1: places that are none.
func TestWrongPlaces(t *testing.T) {
	l := nest(1, 0, 1)
	for _, i := range []int{math.MinInt, -1, 4, 5, api.MaxSteps, 1 << 32, math.MaxInt} {
		for _, l := range [][]api.Event{l, nil} {
			if r, e := goodlock.Held(l, i); len(r) > 0 || e != api.ErrArg {
				t.Errorf("%d: %v %v", i, r, e)
			}
		}
	}
	if r, e := goodlock.Held([]api.Event{}, 0); len(r) > 0 || e != api.ErrArg {
		t.Errorf("of none: %v %v", r, e)
	}
}

// 25.2: lists that are no ring as it is told; too long ones are told first.
func TestWrongRings(t *testing.T) {
	all, two := every(0, 1, 2, 5), slices.Concat(nest(1, 2, 0, 1), nest(2, 2, 1, 0))
	for _, x := range []struct {
		what string
		l    []api.Event
		ring []int
		want api.Errno
	}{
		{"nothing", all, nil, api.ErrNone}, {"nothing", all, []int{}, api.ErrNone}, {"one lock", all, []int{2}, api.ErrNone},
		{"not from its least", all, []int{1, 0}, api.ErrNone}, {"not from its least", all, []int{1, 2, 0}, api.ErrNone},
		{"a lock twice", all, []int{0, 0}, api.ErrNone}, {"a lock twice", all, []int{0, 1, 0, 1}, api.ErrNone}, {"a lock twice", all, []int{0, 1, 1}, api.ErrNone},
		{"no lock", all, []int{0, 4}, api.ErrNone}, {"no lock", all, []int{-1, 0}, api.ErrNone}, {"far off", all, []int{math.MinInt, math.MaxInt}, api.ErrNone},
		{"four", all, []int{0, 3, 2, 1}, api.OK}, {"five", all, []int{0, 1, 2, 3, 4}, api.ErrLong}, {"five of nothing", nil, make([]int, 5), api.ErrLong},
		{"many", all, make([]int, 1<<16), api.ErrLong}, {"four of nothing", nil, []int{0, 1, 2, 3}, api.ErrNone},
		{"another one", two, []int{0, 2}, api.ErrNone}, {"a longer one", two, []int{0, 1, 2}, api.ErrNone}, {"turned", two, []int{1, 0}, api.ErrNone},
	} {
		if is, e := goodlock.Guarded(x.l, x.ring); is || e != x.want {
			t.Errorf("%s: %v: %v %v, not %v", x.what, x.ring, is, e, x.want)
		}
	}
}

// P1: calls with any events, places and rings end without a panic.
func TestAnything(t *testing.T) {
	for seed := range uint64(300) {
		n := sample.Choices(seed, 40)
		x := api.Event{Go: n[0], Touches: n[1], Op: api.OpLock}
		for i := range x.Touch {
			x.Touch[i] = api.Access{Kind: n[2+i], Num: n[8+i], Write: n[14+i]%2 == 0}
		}
		for _, l := range [][]api.Event{{lock(0, 1), x}, mixed(seed, 30), sample.Trace(seed, 6), nil} {
			goodlock.Edges(l)
			goodlock.Rings(l)
			goodlock.Held(l, n[20])
			goodlock.Guarded(l, n[21:21+seed%7])
		}
	}
}

// R3, R6: events and rings stay as they are, spare room too; answers are new memory, each ring too; the same call tells the
// same.
func TestMemory(t *testing.T) {
	odd := api.Event{Go: -7}
	for _, x := range append(traces(t, 30), longest()...) {
		if len(x) == 0 {
			continue
		}
		l := append(slices.Clone(x), odd, odd)[:len(x)]
		edges, _ := goodlock.Edges(l)
		rings, _ := goodlock.Rings(l)
		held, _ := goodlock.Held(l, len(l)-1)
		wantEdges, wantRings, wantHeld := edgesOf(x), slices.Clone(rings), slices.Clone(held)
		for k, ring := range rings {
			wantRings[k] = slices.Clone(ring)
		}
		for k := range rings {
			given := append(slices.Clone(rings[k]), -7, -7)[:len(rings[k])]
			goodlock.Guarded(l, given)
			if !slices.Equal(given, wantRings[k]) || !slices.Equal(given[:len(given)+2][len(given):], []int{-7, -7}) {
				t.Error("Guarded changes its ring")
			}
			spoil(rings[k], -7)
			if !slices.EqualFunc(rings[k+1:], wantRings[k+1:], slices.Equal) {
				t.Error("rings share memory")
			}
		}
		spoil(edges, api.LockEdge{From: -7})
		spoil(rings, nil)
		spoil(held, -7)
		edges, _ = goodlock.Edges(l)
		rings, _ = goodlock.Rings(l)
		held, _ = goodlock.Held(l, len(l)-1)
		if !slices.Equal(edges, wantEdges) || !slices.EqualFunc(rings, wantRings, slices.Equal) || !slices.Equal(held, wantHeld) {
			t.Error("an answer is kept, or not told the same twice")
		}
		if !slices.Equal(l, x) || l[:len(l)+2][len(l)] != odd || l[:len(l)+2][len(l)+1] != odd {
			t.Error("a call changes its events")
		}
	}
}
