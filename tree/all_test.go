package tree_test

import (
	"slices"
	"testing"

	"scarab/api"
	"scarab/tree"
)

// explored asks for the picks of all runs, whether the last ones are cut, and whether they are complete.
func explored(t *testing.T, what, text string, b api.Budget, complete bool, want ...api.Run) {
	t.Helper()
	l, e := tree.All(parsed(t, text), b)
	if e != api.OK || l.Complete != complete || !slices.EqualFunc(l.All, want, same) {
		t.Errorf("%s: %v %v, not %v %v", what, l, e, want, complete)
	}
}

// whole is a run that is not cut, cut one that is.
func whole(picks ...api.Pick) api.Run { return api.Run{Picks: picks} }
func cut(picks ...api.Pick) api.Run   { return api.Run{Picks: picks, Cut: true} }

// 15.1: the chapter's example 1.
func TestExampleOne(t *testing.T) {
	explored(t, "one yield", lone, budget(1, 1), true, whole(gos(0)...))
	explored(t, "more of all", lone, budget(api.MaxSteps, api.MaxRuns), true, whole(gos(0)...))
	explored(t, "no step", lone, budget(0, 1), false, cut())
	explored(t, "no run", lone, budget(1, 0), false)
	explored(t, "nothing", lone, budget(0, 0), false)
}

// 15.1: the chapter's example 2, and the document's example 8.
func TestExampleTwo(t *testing.T) {
	explored(t, "two that yield", pair, plenty, true, whole(gos(0, 0, 1)...), whole(gos(0, 1, 0)...))
	k, is, e := tree.Classes(parsed(t, pair), plenty)
	if want := "0,0,0,62,0,1,0:4,0,1:5,0,1:5,1,1;0,0,1,64,0,0,0:5,0,1;1,1,0,64,0,0,0:5,1,1;"; !slices.Equal(k, []string{want}) || !is || e != api.OK {
		t.Errorf("Classes: %q %v %v", k, is, e)
	}
}

// 15.1: the document's examples 3, 4, 5 and 9.
func TestExamplesOfTheWhole(t *testing.T) {
	for _, text := range []string{stores, "scarab\natomic" + stores[len("scarab\nvar"):]} {
		explored(t, "stores", text, plenty, true, whole(gos(0, 0, 1)...), whole(gos(0, 1, 0)...))
		if k, is, e := tree.Classes(parsed(t, text), plenty); len(k) != 2 || !is || e != api.OK {
			t.Errorf("Classes of stores: %q %v %v", k, is, e)
		}
	}
	s, is, e := tree.Ends(parsed(t, locks), plenty)
	if len(s) != 2 || !is || e != api.OK || s[0].Gos[0].Status != api.GoDone || s[1].Gos[0].Status != api.GoLive || s[1].Gos[1].Status != api.GoLive {
		t.Errorf("Ends of two locks: %v %v %v", s, is, e)
	}
	for n := range 5 {
		explored(t, "for ever", ring, budget(n, 9), false, cut(make([]api.Pick, n)...))
	}
	explored(t, "for ever", ring, budget(api.MaxSteps, api.MaxRuns), false, cut(make([]api.Pick, api.MaxSteps)...))
}

// 15.1: nothing is ready at the start: one run without a pick, which is never cut; that of a spun one is not complete.
func TestNoStep(t *testing.T) {
	explored(t, "an end", none, budget(0, 1), true, whole())
	explored(t, "an end, no run", none, budget(0, 0), false)
	explored(t, "spun", none, api.Budget{Steps: 9, Runs: 9}, false, whole())
	explored(t, "waits", "scarab\nchan 1\nfunc 0 0\nrecv _ c0 _\nend", budget(0, 1), true, whole())
	explored(t, "goes round", "scarab\nfunc 0 0\njump @0", budget(9, 9), false, whole())
}

// 15.1: a run ends where nothing is ready, be it just at the last step; a deadlock is not cut.
func TestEnd(t *testing.T) {
	explored(t, "a deadlock", stuck, budget(1, 1), true, whole(gos(0)...))
	explored(t, "a deadlock", stuck, budget(2, 1), true, whole(gos(0)...))
	explored(t, "a deadlock further on", stuck, budget(0, 1), false, cut())
	explored(t, "some are cut", "scarab\natomic 0\nfunc 0 1\nspawn _ f1 r0\nconst r0 1\nstore v0 r0\nend\nfunc 0 1\nload r0 v0\nif r0 @3\nyield\nend", budget(3, 9), false,
		whole(gos(0, 0, 1)...), cut(gos(0, 1, 0)...), cut(gos(0, 1, 1)...))
	explored(t, "just enough", pair, budget(3, 2), true, whole(gos(0, 0, 1)...), whole(gos(0, 1, 0)...))
	explored(t, "one step too few", pair, budget(2, 2), false, cut(gos(0, 0)...), cut(gos(0, 1)...))
	explored(t, "one run too few", pair, budget(3, 1), false, whole(gos(0, 0, 1)...))
	explored(t, "two runs too few", pair, budget(3, 0), false)
}

// 15.1: alternatives in their order, an else by its number.
func TestAlternatives(t *testing.T) {
	a := func(alts ...int) api.Run {
		picks := gos(0, 0)
		for _, n := range alts {
			picks = append(picks, api.Pick{Alt: n})
		}
		return whole(picks...)
	}
	explored(t, "a select again and again", choice, plenty, true, a(0, 1, 2), a(1, 0, 2))
	explored(t, "the first alone", choice, budget(5, 1), false, a(0, 1, 2))
	r := a(0, 1)
	r.Cut = true
	q := a(1, 0)
	q.Cut = true
	explored(t, "cut", choice, budget(4, 2), false, r, q)
}

// 15.1: a spun goroutine, be it in one run alone, at the start, or in one that others go on behind.
func TestSpun(t *testing.T) {
	explored(t, "in one run", spins, plenty, false, whole(gos(0, 0, 1)...), whole(gos(0, 1, 0)...))
	explored(t, "that one cut off", spins, budget(9, 1), false, whole(gos(0, 0, 1)...))
	// by the order of the runs the one that spins is the last one too
	last := "scarab\natomic 0\nfunc 0 1\nspawn _ f1 r0\nload r0 v0\nif r0 @2\nend\nfunc 0 1\nconst r0 1\nstore v0 r0\nend"
	explored(t, "in the last run", last, plenty, false, whole(gos(0, 0, 1)...), whole(gos(0, 1, 0)...))
	explored(t, "not with fuel that is enough", "scarab\nfunc 0 1\nconst r0 1\nconst r0 2\nyield\nend", api.Budget{Steps: 9, Fuel: 2, Runs: 9}, true, whole(gos(0)...))
	explored(t, "one fuel fewer", "scarab\nfunc 0 1\nconst r0 1\nconst r0 2\nyield\nend", api.Budget{Steps: 9, Fuel: 1, Runs: 9}, false, whole())
	explored(t, "others go on", "scarab\nfunc 0 0\nspawn _ f1 r0\nyield\nyield\nend\nfunc 0 0\njump @0", plenty, false, whole(gos(0, 0, 0)...))
}

// 15.1: the search, worked out by legal schedules alone.
func TestAllModel(t *testing.T) {
	var told struct{ complete, short, cut, spun int }
	for i, x := range tasks(300) {
		want, spun, some := worked(t, x.p, x.b.Steps, x.b.Fuel, 500)
		if !some {
			continue
		}
		complete := len(want) <= x.b.Runs && !spun
		switch {
		case len(want) > x.b.Runs:
			told.short++
		case slices.ContainsFunc(want, func(r api.Run) bool { return r.Cut }):
			complete = false
			told.cut++
		case spun:
			told.spun++
		case len(want) > 1:
			told.complete++
		}
		want = want[:min(len(want), x.b.Runs)]
		l, e := tree.All(x.p, x.b)
		if e != api.OK || l.Complete != complete || !slices.EqualFunc(l.All, want, same) {
			t.Errorf("%d: %v %v, not %v %v", i, l, e, want, complete)
		}
	}
	if min(told.complete, told.short, told.cut, told.spun) < 15 {
		t.Errorf("told %+v", told)
	}
}
