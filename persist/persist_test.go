package persist_test

import (
	"slices"
	"testing"

	"scarab/api"
	"scarab/persist"
)

// explored asks for the picks of all runs, how many were given up, and whether they are complete.
func explored(t *testing.T, what, text string, b api.Budget, given int, complete bool, want ...api.Run) {
	t.Helper()
	p := parsed(t, text)
	l, e := persist.All(p, b)
	if e != api.OK || l.Complete != complete || !slices.EqualFunc(l.All, want, same) {
		t.Errorf("%s: %v %v, not %v %v", what, l, e, want, complete)
	}
	if n, g, e := persist.Tally(p, b); n != len(want) || g != given || e != api.OK {
		t.Errorf("%s: Tally %d %d %v, not %d %d", what, n, g, e, len(want), given)
	}
}

// 18.2: the chapter's example 2, and the document's examples 1, 3, 4, 8 and 9.
func TestExamples(t *testing.T) {
	explored(t, "one yield", lone, budget(1, 1), 0, true, whole(gos(0)...))
	explored(t, "two that yield", pair, plenty, 0, true, whole(gos(0, 0, 1)...))
	explored(t, "two that yield, by one run", pair, budget(3, 1), 0, true, whole(gos(0, 0, 1)...))
	for _, text := range []string{stores, "scarab\natomic" + stores[len("scarab\nvar"):]} {
		explored(t, "stores", text, plenty, 0, true, whole(gos(0, 0, 1)...), whole(gos(0, 1, 0)...))
	}
	for n := range 5 {
		explored(t, "for ever", ring, budget(n, 9), 0, false, cut(make([]api.Pick, n)...))
	}
	explored(t, "for ever", ring, budget(api.MaxSteps, api.MaxRuns), 0, false, cut(make([]api.Pick, api.MaxSteps)...))
}

// 18.2: who is not of the persistent set is not gone through, and goes to sleep for nobody.
func TestPersistent(t *testing.T) {
	explored(t, "apart", apart, plenty, 0, true, whole(gos(0, 0, 1, 1, 2)...))
	explored(t, "both", both, plenty, 0, true, whole(gos(0, 0, 1, 2)...), whole(gos(0, 0, 2, 1)...))
	// both store, and yield then: the yields come one by one
	late := "scarab\nvar 0\nfunc 0 1\nspawn _ f1 r0\nspawn _ f1 r0\nend\nfunc 0 1\nstore v0 r0\nyield\nend"
	explored(t, "both, and then apart", late, plenty, 0, true, whole(gos(0, 0, 1, 1, 2, 2)...), whole(gos(0, 0, 2, 1, 1, 2)...))
}

// 18.2: what is given up counts as a run does, in its turn, though the steps are spent.
func TestGivenUp(t *testing.T) {
	// by its text f2 may store to v0 behind its store to v1, and f1 loads v0 and then v1: both are gone through, though
	// their first steps are independent; behind 0 0 2 the one that is ready sleeps
	text := "scarab\nvar 0\nvar 0\nfunc 0 1\nspawn _ f1 r0\nspawn _ f2 r0\nend\nfunc 0 1\nload r0 v0\nload r0 v1\nend\nfunc 0 1\nstore v1 r0\nif r0 @3\nend\nstore v0 r0\nend"
	first, second := whole(gos(0, 0, 1, 1, 2)...), whole(gos(0, 0, 1, 2, 1)...)
	explored(t, "given up", text, plenty, 1, true, first, second)
	explored(t, "room for all", text, budget(5, 3), 1, true, first, second)
	explored(t, "room for the runs", text, budget(5, 2), 0, false, first, second)
	explored(t, "room for one", text, budget(5, 1), 0, false, first)
	explored(t, "no room", text, budget(5, 0), 0, false)
	explored(t, "the steps are spent", text, budget(3, 9), 1, false, cut(gos(0, 0, 1)...))
}

// 18.2: nothing is ready: a run; else all asleep: given up; else, if the steps are spent: cut.
func TestWhichEnd(t *testing.T) {
	explored(t, "an end", none, budget(0, 1), 0, true, whole())
	explored(t, "an end, no run", none, budget(0, 0), 0, false)
	explored(t, "no step", lone, budget(0, 1), 0, false, cut())
	explored(t, "a deadlock", stuck, budget(1, 1), 0, true, whole(gos(0)...))
	explored(t, "a deadlock further on", stuck, budget(0, 1), 0, false, cut())
	explored(t, "two that yield, cut", pair, budget(2, 9), 0, false, cut(gos(0, 0)...))
	explored(t, "stores, cut", stores, budget(2, 9), 0, false, cut(gos(0, 0)...), cut(gos(0, 1)...))
	explored(t, "one run too few", stores, budget(3, 1), 0, false, whole(gos(0, 0, 1)...))
}

// 18.2: a spun goroutine, be it in one run alone, or at the start.
func TestSpun(t *testing.T) {
	explored(t, "in one run", spins, plenty, 0, false, whole(gos(0, 0, 1)...), whole(gos(0, 1, 0)...))
	explored(t, "at the start", none, api.Budget{Steps: 9, Runs: 9}, 0, false, whole())
	explored(t, "others go on", "scarab\nfunc 0 0\nspawn _ f1 r0\nyield\nend\nfunc 0 0\njump @0", plenty, 0, false, whole(gos(0, 0)...))
	explored(t, "fuel that is enough", "scarab\nfunc 0 1\nconst r0 1\nyield\nend", api.Budget{Steps: 9, Fuel: 1, Runs: 9}, 0, true, whole(gos(0)...))
}

// 18.2: the search, worked out by lists of those who sleep, with persistent sets by the chapter's words.
func TestModel(t *testing.T) {
	var told struct{ complete, short, cut, spun, given int }
	for i, x := range tasks(300) {
		all, spun, some := worked(t, x.p, x.b.Steps, x.b.Fuel, 100)
		if !some {
			continue
		}
		complete := len(all) <= x.b.Runs && !spun
		if len(all) > x.b.Runs {
			told.short++
			all = all[:x.b.Runs]
		}
		var want []api.Run
		for _, it := range all {
			if it.given {
				continue
			}
			want = append(want, it.run)
			if it.run.Cut {
				complete = false
			}
		}
		given := len(all) - len(want)
		switch {
		case complete && len(want) > 1:
			told.complete++
		case spun:
			told.spun++
		case !complete:
			told.cut++
		}
		if given > 0 {
			told.given++
		}
		l, e := persist.All(x.p, x.b)
		if e != api.OK || l.Complete != complete || !slices.EqualFunc(l.All, want, same) {
			t.Errorf("%d: %v %v, not %v %v", i, l, e, want, complete)
		}
		if n, g, e := persist.Tally(x.p, x.b); n != len(want) || g != given || e != api.OK {
			t.Errorf("%d: Tally %d %d %v, not %d %d", i, n, g, e, len(want), given)
		}
	}
	if min(told.complete, told.short, told.cut, told.spun, told.given) < 10 {
		t.Errorf("told %+v", told)
	}
}
