package sleep_test

import (
	"slices"
	"strings"
	"testing"

	"scarab/api"
	"scarab/sleep"
)

// explored asks for the picks of all runs, how many were given up, and whether they are complete.
func explored(t *testing.T, what, text string, b api.Budget, given int, complete bool, want ...api.Run) {
	t.Helper()
	p := parsed(t, text)
	l, e := sleep.All(p, b)
	if e != api.OK || l.Complete != complete || !slices.EqualFunc(l.All, want, same) {
		t.Errorf("%s: %v %v, not %v %v", what, l, e, want, complete)
	}
	if n, g, e := sleep.Tally(p, b); n != len(want) || g != given || e != api.OK {
		t.Errorf("%s: Tally %d %d %v, not %d %d", what, n, g, e, len(want), given)
	}
}

// 17.1: the chapter's example, and the document's examples 1, 3, 4, 8 and 9.
func TestExamples(t *testing.T) {
	explored(t, "one yield", lone, budget(1, 1), 0, true, whole(gos(0)...))
	explored(t, "two that yield", pair, plenty, 1, true, whole(gos(0, 0, 1)...))
	for _, text := range []string{stores, "scarab\natomic" + stores[len("scarab\nvar"):]} {
		explored(t, "stores", text, plenty, 0, true, whole(gos(0, 0, 1)...), whole(gos(0, 1, 0)...))
	}
	for n := range 5 {
		explored(t, "for ever", ring, budget(n, 9), 0, false, cut(make([]api.Pick, n)...))
	}
	explored(t, "for ever", ring, budget(api.MaxSteps, api.MaxRuns), 0, false, cut(make([]api.Pick, api.MaxSteps)...))
}

// 17.1: what is given up counts as a run does, in its turn: behind the last one there may be no more.
func TestGivenUpCounts(t *testing.T) {
	explored(t, "no room", pair, budget(9, 0), 0, false)
	explored(t, "room for the run", pair, budget(9, 1), 0, false, whole(gos(0, 0, 1)...))
	explored(t, "room for both", pair, budget(9, 2), 1, true, whole(gos(0, 0, 1)...))
	// 0 0 0 1 2 is the run; 0 0 0 2, 0 0 1 2, 0 0 2 and 0 1 are given up
	p := parsed(t, three)
	for n, want := range [][2]int{{0, 0}, {1, 0}, {1, 1}, {1, 2}, {1, 3}, {1, 4}, {1, 4}} {
		runs, given, e := sleep.Tally(p, budget(9, n))
		if [2]int{runs, given} != want || e != api.OK {
			t.Errorf("three, %d: %d %d %v, not %v", n, runs, given, e, want)
		}
		if l, _ := sleep.All(p, budget(9, n)); len(l.All) != want[0] || l.Complete != (n >= 5) {
			t.Errorf("three, %d: %v", n, l)
		}
	}
}

// 17.1: nothing is ready: a run, cut or asleep or not; all asleep: given up, though the steps are spent; else it is cut.
func TestWhichEnd(t *testing.T) {
	explored(t, "an end", none, budget(0, 1), 0, true, whole())
	explored(t, "an end, no run", none, budget(0, 0), 0, false)
	explored(t, "no step", lone, budget(0, 1), 0, false, cut())
	explored(t, "a deadlock", stuck, budget(1, 1), 0, true, whole(gos(0)...))
	explored(t, "a deadlock further on", stuck, budget(0, 1), 0, false, cut())
	explored(t, "given up at the last step", pair, budget(2, 9), 1, false, cut(gos(0, 0)...))
	explored(t, "all asleep at the last step", mixed, budget(3, 9), 2, false, cut(gos(0, 0, 0)...), cut(gos(0, 0, 1)...))
	// behind 0 0 1 and 0 0 2 main sleeps, and one that stores does not; behind 0 1 main alone is ready
	awake := "scarab\nvar 0\nfunc 0 1\nspawn _ f1 r0\nspawn _ f1 r0\nyield\nend\nfunc 0 1\nstore v0 r0\nend"
	explored(t, "one awake at the last step", awake, budget(3, 9), 1, false, cut(gos(0, 0, 0)...), cut(gos(0, 0, 1)...), cut(gos(0, 0, 2)...))
	explored(t, "stores, cut", stores, budget(2, 9), 0, false, cut(gos(0, 0)...), cut(gos(0, 1)...))
}

// 17.1: of a goroutine all alternatives are gone through, each with those asleep that went ahead of the goroutine; none
// sleeps for another one of its own.
func TestAlternatives(t *testing.T) {
	a := func(tail ...api.Pick) api.Run { return whole(append(gos(0, 0, 0), tail...)...) }
	zero, one, other := api.Pick{}, api.Pick{Alt: 1}, api.Pick{Go: 1}
	explored(t, "both alternatives", choice, plenty, 1, true, a(zero, other), a(one, other))
	// the other one is ready all along: it is gone through behind each of main's steps, and then all that is ready sleeps
	late := strings.Replace(choice, "select s0\n", "select s0\nyield\n", 1)
	explored(t, "both, and a step more", late, plenty, 3, true, a(zero, zero, other), a(one, zero, other))
}

// 17.1: a spun goroutine, be it in one run alone, at the start, or behind picks that are given up.
func TestSpun(t *testing.T) {
	explored(t, "in one run", spins, plenty, 0, false, whole(gos(0, 0, 1)...), whole(gos(0, 1, 0)...))
	explored(t, "at the start", none, api.Budget{Steps: 9, Runs: 9}, 0, false, whole())
	explored(t, "goes round", "scarab\nfunc 0 0\njump @0", budget(9, 9), 0, false, whole())
	explored(t, "others go on", "scarab\nfunc 0 0\nspawn _ f1 r0\nyield\nend\nfunc 0 0\njump @0", plenty, 0, false, whole(gos(0, 0)...))
	explored(t, "fuel that is enough", "scarab\nfunc 0 1\nconst r0 1\nconst r0 2\nyield\nend", api.Budget{Steps: 9, Fuel: 2, Runs: 9}, 0, true, whole(gos(0)...))
	explored(t, "one fuel fewer", "scarab\nfunc 0 1\nconst r0 1\nconst r0 2\nyield\nend", api.Budget{Steps: 9, Fuel: 1, Runs: 9}, 0, false, whole())
}

// 17.1: the search, worked out by lists of those who sleep, each place from the start on.
func TestModel(t *testing.T) {
	var told struct{ complete, short, shortGiven, cut, spun, given int }
	for i, x := range tasks(400) {
		all, spun, some := worked(t, x.p, x.b.Steps, x.b.Fuel, 300)
		if !some {
			continue
		}
		complete := len(all) <= x.b.Runs && !spun
		if len(all) > x.b.Runs {
			told.short++
			all = all[:x.b.Runs]
			if len(all) > 0 && all[len(all)-1].given {
				told.shortGiven++
			}
		}
		var want []api.Run
		for _, it := range all {
			if it.given {
				continue
			}
			want = append(want, it.run)
			if it.run.Cut {
				complete = false
			}
		}
		given := len(all) - len(want)
		switch {
		case complete && len(want) > 1:
			told.complete++
		case spun:
			told.spun++
		case !complete:
			told.cut++
		}
		if given > 0 {
			told.given++
		}
		l, e := sleep.All(x.p, x.b)
		if e != api.OK || l.Complete != complete || !slices.EqualFunc(l.All, want, same) {
			t.Errorf("%d: %v %v, not %v %v", i, l, e, want, complete)
		}
		if n, g, e := sleep.Tally(x.p, x.b); n != len(want) || g != given || e != api.OK {
			t.Errorf("%d: Tally %d %d %v, not %d %d", i, n, g, e, len(want), given)
		}
	}
	if min(told.complete, told.short, told.cut, told.given) < 30 || told.spun < 15 || told.shortGiven < 5 {
		t.Errorf("told %+v", told)
	}
}
