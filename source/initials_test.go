package source_test

import (
	"slices"
	"testing"

	"scarab/api"
	"scarab/sample"
	"scarab/sched"
	"scarab/source"
)

// event is an event of a goroutine that touches an object beside itself.
func event(g int, a api.Access) api.Event {
	x := api.Event{Go: g, Touches: 2}
	x.Touch[0], x.Touch[1] = a, api.Access{Kind: api.ObGo, Num: g, Write: true}
	return x
}

// reads and writes are events of a goroutine upon a variable.
func reads(g, v int) api.Event  { return event(g, api.Access{Kind: api.ObVar, Num: v}) }
func writes(g, v int) api.Event { return event(g, api.Access{Kind: api.ObVar, Num: v, Write: true}) }

// 21.1: whose first event depends on none ahead of it, from a place on; rising; what is ahead of that place does not
// matter.
func TestInitials(t *testing.T) {
	for _, x := range []struct {
		what string
		l    []api.Event
		from int
		want []int
	}{
		{"nothing", nil, 0, nil},
		{"none is left", []api.Event{writes(0, 0)}, 1, nil},
		{"one", []api.Event{writes(3, 0)}, 0, []int{3}},
		{"again", []api.Event{writes(3, 0), writes(3, 0)}, 0, []int{3}},
		{"independent, falling", []api.Event{writes(5, 0), writes(2, 1), writes(0, 2)}, 0, []int{0, 2, 5}},
		{"dependent", []api.Event{writes(5, 0), writes(2, 0)}, 0, []int{5}},
		{"a read behind a write", []api.Event{writes(1, 0), reads(2, 0)}, 0, []int{1}},
		{"a write behind a read", []api.Event{reads(1, 0), writes(2, 0)}, 0, []int{1}},
		{"reads", []api.Event{reads(1, 0), reads(2, 0)}, 0, []int{1, 2}},
		{"behind a second one", []api.Event{writes(1, 0), writes(1, 1), writes(0, 1)}, 0, []int{1}},
		{"behind one that is no initial", []api.Event{writes(1, 0), writes(2, 0), writes(2, 1), writes(3, 1)}, 0, []int{1}},
		{"its second one does not matter", []api.Event{writes(1, 0), writes(2, 1), writes(2, 0)}, 0, []int{1, 2}},
		{"its second one is not its first", []api.Event{writes(1, 0), writes(2, 0), writes(2, 1)}, 0, []int{1}},
		{"ahead of the place", []api.Event{writes(1, 0), writes(2, 0), writes(0, 1)}, 1, []int{0, 2}},
		{"its second one is the first there", []api.Event{writes(1, 0), writes(2, 0), writes(1, 1)}, 1, []int{1, 2}},
		{"a goroutine is an object too", []api.Event{event(0, api.Access{Kind: api.ObGos, Write: true}), event(1, api.Access{Kind: api.ObGos})}, 0, []int{0}},
	} {
		if l, e := source.Initials(x.l, x.from); !slices.Equal(l, x.want) || e != api.OK {
			t.Errorf("%s: %v %v, not %v", x.what, l, e, x.want)
		}
	}
	if l, e := source.Initials(slices.Repeat([]api.Event{writes(4, 0)}, api.MaxSteps), api.MaxSteps-1); !slices.Equal(l, []int{4}) || e != api.OK {
		t.Errorf("as many as may be: %v %v", l, e)
	}
}

// 21.1: by the chapter's words, of any events, from all places on.
func TestInitialsModel(t *testing.T) {
	var told struct{ one, more, fewer int }
	for seed := range uint64(300) {
		l := sample.Trace(seed, int(seed%20))
		for from := range len(l) + 1 {
			want := initials(l[from:])
			got, e := source.Initials(l, from)
			if !slices.Equal(got, want) || e != api.OK {
				t.Errorf("seed %d from %d: %v %v, not %v", seed, from, got, e, want)
			}
			if len(want) == 1 {
				told.one++
			}
			if len(want) > 1 {
				told.more++
			}
			if len(want) > 0 && slices.ContainsFunc(l[from:], func(x api.Event) bool { return !slices.Contains(want, x.Go) }) {
				told.fewer++
			}
		}
	}
	if min(told.one, told.more, told.fewer) < 200 {
		t.Errorf("told %+v", told)
	}
}

// weaks asks for the weak initials behind picks of more.
func weaks(t *testing.T, what, text string, picks, more []api.Pick, b api.Budget, want ...int) {
	t.Helper()
	if l, e := source.Weak(parsed(t, text), picks, more, b); !slices.Equal(l, want) || e != api.OK {
		t.Errorf("%s: %v %v, not %v", what, l, e, want)
	}
}

// 21.2: initials, and those that are ready, have no event, and whose next step depends on none.
func TestWeak(t *testing.T) {
	weaks(t, "both yield", pair, gos(0), gos(0), plenty, 0, 1)
	weaks(t, "both yield, the other one", pair, gos(0), gos(1), plenty, 0, 1)
	weaks(t, "both store", stores, gos(0), gos(0), plenty, 0)
	weaks(t, "both store, the other one", stores, gos(0), gos(1), plenty, 1)
	weaks(t, "both store, to the end", stores, gos(0), gos(1, 0), budget(3, 0), 1)
	weaks(t, "no more: all that are ready", stores, gos(0), nil, plenty, 0, 1)
	weaks(t, "no more, no step", stores, nil, nil, budget(0, 0), 0)
	weaks(t, "nothing is ready", none, nil, nil, plenty)
	weaks(t, "behind no pick", pair, nil, gos(0, 0, 1), plenty, 0)
	weaks(t, "one waits for the lock", waits, gos(0, 0, 0), gos(2), plenty, 0, 2)
	weaks(t, "it waits no more", waits, gos(0, 0, 0), gos(2, 0), plenty, 0, 2)
	weaks(t, "it comes behind", waits, gos(0, 0, 0), gos(0, 1), plenty, 0, 2)
	weaks(t, "a couple behind another one", couples, gos(0, 0, 0), gos(1), plenty, 0, 1, 3)
	weaks(t, "one of a couple has none", couples, gos(0, 0, 0), gos(1, 3), plenty, 1, 3)
	weaks(t, "not there yet", couples, gos(0, 0), gos(0), plenty, 0, 1, 2)
	weaks(t, "there behind more", couples, gos(0, 0), gos(0, 3), plenty, 0, 1, 2)
	// behind its yield main would store: here that is not its next step.
	further := "scarab\nvar 0\nfunc 0 1\nspawn _ f1 r0\nyield\nstore v0 r0\nend\nfunc 0 1\nyield\nstore v0 r0\nend"
	weaks(t, "its next step there", further, gos(0), gos(1, 1), plenty, 0, 1)
	weaks(t, "the last of more", further, gos(0, 0), gos(1, 1), plenty, 1)
	weaks(t, "the first of more alone", further, gos(0, 0), gos(1), plenty, 0, 1)
	// main joins 1, which has ended: the join reads how many goroutines there are, and 2 spawns one.
	joins := "scarab\nfunc 0 1\nspawn r0 f1 r0\nspawn _ f2 r0\njoin r0\nend\nfunc 0 0\nyield\nend\nfunc 0 0\nyield\nspawn _ f1 r0\nend"
	weaks(t, "a join, a yield", joins, gos(0, 0, 1), gos(2), plenty, 0, 2)
	weaks(t, "a join, a spawn", joins, gos(0, 0, 1), gos(2, 2), plenty, 2)
	weaks(t, "a join of what goes on", joins, gos(0, 0), gos(2), plenty, 1, 2)
}

// 21.2: by the chapter's words, of sampled programs and picks.
func TestWeakModel(t *testing.T) {
	var told struct{ more, fewer, waits int }
	for i, x := range tasks(t, 600) {
		x.b.Steps = 30
		choices := sample.Choices(uint64(i), 3+i%20)
		both, e := sched.Choose(x.p, choices, x.b)
		if e != api.OK {
			t.Fatal(e)
		}
		for n := range len(both) + 1 {
			picks, tail := both[:n], both[n:min(len(both), n+i%7)]
			want := weak(t, x.p, picks, tail, x.b.Fuel)
			l, e := source.Weak(x.p, picks, tail, x.b)
			if e != api.OK || !slices.Equal(l, want) {
				t.Errorf("%d: Weak of %v, %v: %v %v, not %v", i, picks, tail, l, e, want)
			}
			run, open := ran(t, x.p, slices.Concat(picks, tail), x.b.Fuel)
			_, there := ran(t, x.p, picks, x.b.Fuel)
			if len(tail) > 0 && len(want) > len(initials(run.Events[n:])) {
				told.more++
			}
			for g := range api.MaxGos {
				if has(there, g) && !slices.Contains(want, g) {
					told.fewer++
				}
				if has(open, g) && !has(there, g) {
					told.waits++
				}
			}
		}
	}
	if min(told.more, told.fewer, told.waits) < 100 {
		t.Errorf("told %+v", told)
	}
}
