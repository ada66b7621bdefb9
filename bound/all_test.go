package bound_test

import (
	"slices"
	"testing"

	"scarab/api"
	"scarab/bound"
)

// explored asks for all runs by a bound, and whether they are complete.
func explored(t *testing.T, what, text string, k int, b api.Budget, complete bool, want ...api.Run) {
	t.Helper()
	p := parsed(t, text)
	l, e := bound.All(p, k, b)
	if e != api.OK || l.Complete != complete || !slices.EqualFunc(l.All, want, same) {
		t.Errorf("%s, %d: %v %v, not %v %v", what, k, l, e, want, complete)
	}
	s, is, e := bound.Ends(p, k, b)
	if e != api.OK || is != complete || !slices.Equal(s, ends(t, p, want, b.Fuel)) {
		t.Errorf("%s, %d: Ends %v %v %v", what, k, s, is, e)
	}
}

// grown asks how the runs grow, and whether all of them are complete.
func grown(t *testing.T, what, text string, b api.Budget, complete bool, want ...int) {
	t.Helper()
	l, is, e := bound.Grow(parsed(t, text), len(want)-1, b)
	if e != api.OK || is != complete || !slices.Equal(l, want) {
		t.Errorf("%s: Grow %v %v %v, not %v %v", what, l, is, e, want, complete)
	}
}

// 20.2, 20.3: the chapter's example.
func TestExample(t *testing.T) {
	explored(t, "two that yield", pair, 0, plenty, true, whole(0, 0, 1))
	explored(t, "two that yield", pair, 1, plenty, true, whole(0, 0, 1), whole(0, 1, 0))
	grown(t, "two that yield", pair, plenty, true, 1, 2)
}

// 20.2: the document's examples 1, 3, 8 and 9; the greatest bound.
func TestExamplesOfTheWhole(t *testing.T) {
	for _, k := range []int{0, 1, 16, api.MaxSteps - 1, api.MaxSteps} {
		explored(t, "one yield", lone, k, budget(1, 1), true, whole(0))
		explored(t, "for ever", ring, k, budget(5, 9), false, cut(0, 0, 0, 0, 0))
		if k > 0 {
			explored(t, "two that yield", pair, k, plenty, true, whole(0, 0, 1), whole(0, 1, 0))
			explored(t, "stores", stores, k, plenty, true, whole(0, 0, 1), whole(0, 1, 0))
		}
	}
	explored(t, "for ever", ring, 0, budget(api.MaxSteps, api.MaxRuns), false, cut(make([]int, api.MaxSteps)...))
}

// 20.2: where the one that was taken last can not go on, any other one may; a bound is spent by preemptions alone, and
// those behind it are left out.
func TestBounds(t *testing.T) {
	explored(t, "three", three, 0, plenty, true, whole(0, 0, 0, 1, 2), whole(0, 0, 0, 2, 1))
	explored(t, "three", three, 1, plenty, true,
		whole(0, 0, 0, 1, 2), whole(0, 0, 0, 2, 1), whole(0, 0, 1, 0, 2), whole(0, 0, 1, 2, 0), whole(0, 0, 2, 0, 1), whole(0, 0, 2, 1, 0),
		whole(0, 1, 0, 0, 2))
	explored(t, "three", three, 2, plenty, true,
		whole(0, 0, 0, 1, 2), whole(0, 0, 0, 2, 1), whole(0, 0, 1, 0, 2), whole(0, 0, 1, 2, 0), whole(0, 0, 2, 0, 1), whole(0, 0, 2, 1, 0),
		whole(0, 1, 0, 0, 2), whole(0, 1, 0, 2, 0))
	grown(t, "three", three, plenty, true, 2, 7, 8, 8, 8)
	explored(t, "an offer", handed, 0, plenty, true, whole(0, 0, 1, 0))
	explored(t, "a deadlock", stuck, 0, budget(1, 1), true, whole(0))
}

// 20.2: as soon as there would be one run more than there may be, it ends; runs are cut at the last step; nothing is
// ready at the start; what is left out by the bound is not missed.
func TestBudgetIsSpent(t *testing.T) {
	explored(t, "no run", pair, 0, budget(3, 0), false)
	explored(t, "just enough", pair, 0, budget(3, 1), true, whole(0, 0, 1))
	explored(t, "one run too few", pair, 1, budget(3, 1), false, whole(0, 0, 1))
	explored(t, "one step too few", pair, 1, budget(2, 2), false, cut(0, 0), cut(0, 1))
	explored(t, "one step too few", pair, 0, budget(2, 2), false, cut(0, 0))
	explored(t, "an end", none, 0, budget(0, 1), true, whole())
	explored(t, "an end, no run", none, 0, budget(0, 0), false)
	explored(t, "no step", lone, 0, budget(0, 1), false, cut())
	some := "scarab\natomic 0\nfunc 0 1\nspawn _ f1 r0\nconst r0 1\nstore v0 r0\nend\nfunc 0 1\nload r0 v0\nif r0 @3\nyield\nend"
	explored(t, "those that would be cut are left out", some, 0, budget(3, 9), true, whole(0, 0, 1))
	explored(t, "some are cut", some, 1, budget(3, 9), false, whole(0, 0, 1), cut(0, 1, 1))
	explored(t, "some are cut", some, 2, budget(3, 9), false, whole(0, 0, 1), cut(0, 1, 0), cut(0, 1, 1))
	grown(t, "some are cut", some, budget(3, 9), false, 1, 2, 3)
	grown(t, "the first alone", some, budget(3, 9), true, 1)
	grown(t, "one run too few", pair, budget(3, 1), false, 1, 1)
	grown(t, "no run", pair, budget(3, 0), false, 0, 0, 0)
	grown(t, "the most that may be asked for", pair, plenty, true, 1, 2, 2, 2, 2, 2, 2, 2, 2, 2, 2, 2, 2, 2, 2, 2, 2)
}

// 20.2: a spun goroutine, be it in one run alone, which the bound may leave out.
func TestSpun(t *testing.T) {
	explored(t, "in the first run", spins, 0, plenty, false, whole(0, 0, 1))
	last := "scarab\natomic 0\nfunc 0 1\nspawn _ f1 r0\nload r0 v0\nif r0 @2\nend\nfunc 0 1\nconst r0 1\nstore v0 r0\nend"
	explored(t, "left out", last, 0, plenty, true, whole(0, 0, 1))
	explored(t, "in the last run", last, 1, plenty, false, whole(0, 0, 1), whole(0, 1, 0))
	grown(t, "in the last run", last, plenty, false, 1, 2)
	explored(t, "at the start", none, 0, api.Budget{Steps: 9, Runs: 9}, false, whole())
	explored(t, "others go on", "scarab\nfunc 0 0\nspawn _ f1 r0\nyield\nyield\nend\nfunc 0 0\njump @0", 1, plenty, false, whole(0, 0, 0))
	explored(t, "fuel that is enough", "scarab\nfunc 0 1\nconst r0 1\nconst r0 2\nyield\nend", 0, api.Budget{Steps: 9, Fuel: 2, Runs: 9}, true, whole(0))
	explored(t, "one fuel fewer", "scarab\nfunc 0 1\nconst r0 1\nconst r0 2\nyield\nend", 0, api.Budget{Steps: 9, Fuel: 1, Runs: 9}, false, whole())
}

// 20.2: alternatives of one goroutine are no preemptions; last states, each once, in the order of their runs.
func TestAlternativesAndEnds(t *testing.T) {
	a := func(alts ...int) api.Run {
		picks := gos(0, 0)
		for _, n := range alts {
			picks = append(picks, api.Pick{Alt: n})
		}
		return api.Run{Picks: picks}
	}
	explored(t, "a select again and again", choice, 0, plenty, true, a(0, 1, 2), a(1, 0, 2))
	p := parsed(t, three)
	if s, is, e := bound.Ends(p, 2, plenty); len(s) != 1 || !is || e != api.OK {
		t.Errorf("three: %d ends, %v %v", len(s), is, e)
	}
	if s, is, e := bound.Ends(parsed(t, stores), 1, plenty); len(s) != 2 || !is || e != api.OK || s[0].Vars[0] != 1 || s[1].Vars[0] != 0 {
		t.Errorf("stores: %v %v %v", s, is, e)
	}
	if s, is, e := bound.Ends(p, 2, budget(4, 9)); len(s) > 0 || is || e != api.OK {
		t.Errorf("cut: %d ends, %v %v", len(s), is, e)
	}
}

// 20.2, 20.3: the search, worked out by legal schedules alone.
func TestModel(t *testing.T) {
	var told struct{ complete, short, cut, spun, grown int }
	for i, x := range tasks(300) {
		most := i % 4
		var counts []int
		whole := true
		for k := range most + 1 {
			f, some := worked(t, x.p, k, x.b.Steps, x.b.Fuel, 150)
			if !some {
				counts = nil
				break
			}
			want, complete := f.runs[:min(len(f.runs), x.b.Runs)], f.complete(x.b)
			switch {
			case len(f.runs) > x.b.Runs:
				told.short++
			case f.spun:
				told.spun++
			case !complete:
				told.cut++
			case len(f.runs) > 1:
				told.complete++
			}
			l, e := bound.All(x.p, k, x.b)
			if e != api.OK || l.Complete != complete || !slices.EqualFunc(l.All, want, same) {
				t.Errorf("%d, %d: %v %v, not %v %v", i, k, l, e, want, complete)
			}
			s, is, e := bound.Ends(x.p, k, x.b)
			if e != api.OK || is != complete || !slices.Equal(s, ends(t, x.p, want, x.b.Fuel)) {
				t.Errorf("%d, %d: Ends %v %v", i, k, is, e)
			}
			counts, whole = append(counts, len(want)), whole && complete
		}
		if len(counts) == 0 {
			continue
		}
		l, is, e := bound.Grow(x.p, most, x.b)
		if e != api.OK || is != whole || !slices.Equal(l, counts) {
			t.Errorf("%d: Grow %v %v %v, not %v %v", i, l, is, e, counts, whole)
		}
		if counts[most] > counts[0] {
			told.grown++
		}
	}
	if min(told.complete, told.cut, told.spun, told.grown) < 30 || told.short < 10 {
		t.Errorf("told %+v", told)
	}
}
