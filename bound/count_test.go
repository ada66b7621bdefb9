package bound_test

import (
	"slices"
	"testing"

	"scarab/api"
	"scarab/bound"
	"scarab/sample"
	"scarab/sched"
)

// places asks where a schedule's preemptions are, and how many.
func places(t *testing.T, what, text string, picks []api.Pick, b api.Budget, want ...int) {
	t.Helper()
	p := parsed(t, text)
	if l, e := bound.Where(p, picks, b); e != api.OK || !slices.Equal(l, want) {
		t.Errorf("%s: Where %v %v, not %v", what, l, e, want)
	}
	if n, e := bound.Count(p, picks, b); e != api.OK || n != len(want) {
		t.Errorf("%s: Count %d %v, not %d", what, n, e, len(want))
	}
}

// 20.1: a pick of another goroutine is a preemption just if the one that was taken last is ready ahead of it.
func TestPlaces(t *testing.T) {
	places(t, "no picks", pair, nil, plenty)
	places(t, "no picks, no steps", pair, []api.Pick{}, budget(0, 0))
	places(t, "the first one", lone, gos(0), plenty)
	places(t, "the example", pair, gos(0, 1, 0), plenty, 1)
	places(t, "the example, with just these steps", pair, gos(0, 1, 0), budget(3, 0), 1)
	places(t, "main could not go on", pair, gos(0, 0, 1), plenty)
	places(t, "one of two", three, gos(0, 0, 1, 0, 2), plenty, 2)
	places(t, "at once", three, gos(0, 1, 0, 2, 0), plenty, 1, 3)
	places(t, "who comes back preempts too", three, gos(0, 1, 0, 0, 2), plenty, 1)
	places(t, "the other one waits for the lock", waits, gos(0, 0, 0, 2, 0, 1, 1), plenty, 3)
	places(t, "it took the lock", waits, gos(0, 0, 0, 0, 1, 2, 1), plenty, 5)
	places(t, "main offers, and waits for it to be taken", handed, gos(0, 0, 1, 0), plenty)
	places(t, "one that waits is not preempted, though it has not ended", handed, gos(0, 0, 1), plenty)
	places(t, "not ready behind the pick ahead, ready again", "scarab\nchan 1\nfunc 0 1\nspawn _ f1 r0\nrecv r0 c0 _\nend\nfunc 0 1\nsend c0 r0\nyield\nend", gos(0, 1, 0, 1), plenty, 2)
	places(t, "alternatives of one goroutine", choice, []api.Pick{{}, {}, {Alt: 1}, {}, {Alt: 2}}, plenty)
}

// 20.1, 20.6: by the chapter's words, of sampled picks; never more than Switches says.
func TestPlacesModel(t *testing.T) {
	var told struct{ some, two, free int }
	for i, x := range tasks(500) {
		x.b.Steps, x.b.Runs = 25, 0
		picks, e := sched.Choose(x.p, sample.Choices(uint64(i), i%20), x.b)
		if e != api.OK {
			t.Fatal(e)
		}
		want := forced(t, x.p, picks, x.b.Fuel)
		l, e := bound.Where(x.p, picks, x.b)
		if e != api.OK || !slices.Equal(l, want) {
			t.Errorf("%d: Where of %v: %v %v, not %v", i, picks, l, e, want)
		}
		n, e := bound.Count(x.p, picks, x.b)
		if e != api.OK || n != len(want) || n > sched.Switches(picks) {
			t.Errorf("%d: Count of %v: %d %v, not %d", i, picks, n, e, len(want))
		}
		if len(want) > 0 {
			told.some++
		}
		if len(want) > 1 {
			told.two++
		}
		if sched.Switches(picks) > len(want) {
			told.free++
		}
	}
	if min(told.some, told.two, told.free) < 50 {
		t.Errorf("told %+v", told)
	}
}

// 20.6: a run of one goroutine has no preemption, be there others or not.
func TestOneGoroutine(t *testing.T) {
	told := 0
	for i, x := range tasks(200) {
		x.b.Steps = 25
		var picks []api.Pick
		for len(picks) < x.b.Steps {
			open, _ := ready(t, x.p, picks, x.b.Fuel)
			if len(open) == 0 || open[0].Go != 0 {
				break
			}
			picks = append(picks, open[0])
		}
		if n, e := bound.Count(x.p, picks, x.b); n != 0 || e != api.OK {
			t.Errorf("%d: %d %v", i, n, e)
		}
		if len(picks) > 1 {
			told++
		}
	}
	if told < 50 {
		t.Errorf("told %d", told)
	}
}
