package dpor_test

import (
	"slices"
	"strings"
	"testing"

	"scarab/api"
	"scarab/dpor"
)

// explored asks for all runs, whether they are complete, and the goroutines of their first picks.
func explored(t *testing.T, what, text string, b api.Budget, complete bool, want ...api.Run) {
	t.Helper()
	p := parsed(t, text)
	l, e := dpor.All(p, b)
	if e != api.OK || l.Complete != complete || !slices.EqualFunc(l.All, want, same) {
		t.Errorf("%s: %v %v, not %v %v", what, l, e, want, complete)
	}
	if g, e := dpor.Roots(p, b); e != api.OK || !slices.Equal(g, roots(want)) {
		t.Errorf("%s: Roots %v %v, not %v", what, g, e, roots(want))
	}
}

// roots are the goroutines of runs' first picks, each once, rising.
func roots(l []api.Run) []int {
	var gos []int
	for _, r := range l {
		if len(r.Picks) > 0 {
			gos = append(gos, r.Picks[0].Go)
		}
	}
	slices.Sort(gos)
	return slices.Compact(gos)
}

// 19.1: the chapter's example, and the document's examples 1, 3, 4, 8 and 9.
func TestExamples(t *testing.T) {
	explored(t, "one yield", lone, budget(1, 1), true, whole(0))
	explored(t, "two that yield", pair, plenty, true, whole(0, 0, 1))
	for _, text := range []string{stores, "scarab\natomic" + stores[len("scarab\nvar"):]} {
		explored(t, "stores", text, plenty, true, whole(0, 0, 1), whole(0, 1, 0))
	}
	explored(t, "loads", strings.ReplaceAll(stores, "store v0 r0", "load r0 v0"), plenty, true, whole(0, 0, 1))
	for n := range 5 {
		explored(t, "for ever", ring, budget(n, 9), false, cut(make([]int, n)...))
	}
	explored(t, "for ever", ring, budget(api.MaxSteps, api.MaxRuns), false, cut(make([]int, api.MaxSteps)...))
}

// 19.1: one that is not ready, waiting for the lock, races with who took it, and may come first.
func TestWhoWaits(t *testing.T) {
	explored(t, "a lock", locked, plenty, true, whole(0, 0, 0, 1, 1), whole(0, 1, 1, 0, 0))
	crossed := `scarab
		mutex
		mutex
		func 0 0
		spawn _ f1 r0
		lock l0
		lock l1
		unlock l1
		unlock l0
		end
		func 0 0
		lock l1
		lock l0
		unlock l0
		unlock l1
		end`
	explored(t, "two locks", crossed, plenty, true, whole(0, 0, 0, 0, 0, 1, 1, 1, 1), again(0, 0, 0, 0, 1, 0, 1, 1, 1),
		whole(0, 0, 1), whole(0, 1, 1, 1, 0, 1, 0, 0, 0), again(0, 1, 0))
}

// 19.1: where nobody could come ahead of the event that is raced with, all that are ready there are wanted.
func TestNobodyAhead(t *testing.T) {
	explored(t, "the lock is given back", waits, plenty, true, whole(0, 0, 0, 0, 1, 2), again(0, 0, 0, 2, 0, 1))
}

// 19.1: who is wanted may be another one than who races: the one that spawned it, or that hands it something; of several
// the least.
func TestWhoIsWanted(t *testing.T) {
	explored(t, "its parent", later, plenty, true, whole(0, 0, 1, 2), whole(0, 1, 2, 0), again(0, 1, 0, 2))
	// ahead of main's store both could come by whom 2's store may: 1 is the least. Behind that, 2 is wanted where 1 stored.
	explored(t, "the least", passed, plenty, true,
		whole(0, 0, 0, 1, 2, 2), whole(0, 0, 0, 2, 1, 2),
		whole(0, 0, 1, 2, 2, 0), again(0, 0, 1, 2, 0, 2),
		whole(0, 0, 2, 1, 2, 0), again(0, 0, 2, 1, 0, 2))
	// 2 stores just if it loaded what 1 stored behind its yield: ahead of main's store it is not wanted itself.
	alone := "scarab\nvar 0\nvar 0\nfunc 0 1\nspawn _ f1 r0\nspawn _ f2 r0\nstore v0 r0\nend\nfunc 0 1\nconst r0 1\nyield\nstore v1 r0\nend\nfunc 0 1\nload r0 v1\nif r0 @3\nend\nstore v0 r0\nend"
	explored(t, "the least alone", alone, plenty, true,
		whole(0, 0, 0, 1, 1, 2, 2), whole(0, 0, 0, 1, 2, 1),
		whole(0, 0, 1, 1, 2, 2, 0), again(0, 0, 1, 1, 2, 0, 2), again(0, 0, 1, 2, 1, 0))
}

// 19.1: who sleeps is taken all the same, if it is wanted, or if all sleep: a repeat, from there on.
func TestRepeats(t *testing.T) {
	explored(t, "crossed", crossed, plenty, true, whole(0, 0, 0, 1, 1), whole(0, 0, 1, 0, 1), whole(0, 1, 1, 0, 0), again(0, 1, 0, 0, 1))
	r := again(0, 1, 0, 0)
	r.Cut = true
	explored(t, "cut too", crossed, budget(4, 9), false, cut(0, 0, 0, 1), cut(0, 0, 1, 0), cut(0, 1, 1, 0), r)
}

// 19.1: repeats count as runs; as soon as there would be one run more, it ends.
func TestRunsAreSpent(t *testing.T) {
	all := []api.Run{whole(0, 0, 0, 1, 1), whole(0, 0, 1, 0, 1), whole(0, 1, 1, 0, 0), again(0, 1, 0, 0, 1)}
	for n := range 7 {
		explored(t, "crossed", crossed, budget(5, n), n >= 4, all[:min(n, 4)]...)
	}
	explored(t, "no run", none, budget(0, 0), false)
	explored(t, "one run", none, budget(0, 1), true, whole())
}

// 19.1: nothing is ready: a run; else, with the steps spent, one that is cut, which has had its races looked for.
func TestWhichEnd(t *testing.T) {
	explored(t, "an end", none, budget(0, 1), true, whole())
	explored(t, "no step", lone, budget(0, 1), false, cut())
	explored(t, "a deadlock", stuck, budget(1, 1), true, whole(0))
	explored(t, "a deadlock further on", stuck, budget(0, 1), false, cut())
	explored(t, "the race shows at the cut", stores, budget(2, 9), false, cut(0, 0), cut(0, 1))
	explored(t, "the cut comes first", stores, budget(1, 9), false, cut(0))
}

// 19.1: of a goroutine that is wanted all alternatives are gone through, ahead of the next one; what is wanted while they
// are is gone through behind them.
func TestAlternatives(t *testing.T) {
	text := `scarab
		var 0
		chan 1
		chan 1
		func 0 1
		choose _
		onrecv c0 r0 @4
		onrecv c1 r0 @4
		send c0 r0
		send c1 r0
		spawn _ f1 r0
		select s0
		store v0 r0
		end
		func 0 1
		store v0 r0
		end`
	run := func(tail ...api.Pick) api.Run { return api.Run{Picks: append(gos(0, 0, 0), tail...)} }
	zero, one, other := api.Pick{}, api.Pick{Alt: 1}, api.Pick{Go: 1}
	explored(t, "both alternatives", text, plenty, true, run(zero, zero, other), run(zero, other, zero), run(one, zero, other), run(one, other, zero))
	short := strings.Replace(text, "store v0 r0\n", "", 1)
	sends := strings.Replace(short, "store v0 r0", "send c1 r0", 1)
	explored(t, "one of them lets the other one go on", sends, plenty, true, run(zero), run(one, other))
	takes := strings.Replace(short, "store v0 r0", "recv _ c0 _", 1)
	explored(t, "the other one is wanted behind the first", takes, plenty, true, run(zero), run(one, other), run(other, one))
}

// 19.1: a spun goroutine, be it in one run alone, or at the start.
func TestSpun(t *testing.T) {
	explored(t, "in one run", spins, plenty, false, whole(0, 0, 1), whole(0, 1, 0))
	last := "scarab\natomic 0\nfunc 0 1\nspawn _ f1 r0\nload r0 v0\nif r0 @2\nend\nfunc 0 1\nconst r0 1\nstore v0 r0\nend"
	explored(t, "in the last run", last, plenty, false, whole(0, 0, 1), whole(0, 1, 0))
	explored(t, "at the start", none, api.Budget{Steps: 9, Runs: 9}, false, whole())
	explored(t, "goes round", "scarab\nfunc 0 0\njump @0", budget(9, 9), false, whole())
	explored(t, "others go on", "scarab\nfunc 0 0\nspawn _ f1 r0\nyield\nend\nfunc 0 0\njump @0", plenty, false, whole(0, 0))
	explored(t, "fuel that is enough", "scarab\nfunc 0 1\nconst r0 1\nconst r0 2\nyield\nend", api.Budget{Steps: 9, Fuel: 2, Runs: 9}, true, whole(0))
	explored(t, "one fuel fewer", "scarab\nfunc 0 1\nconst r0 1\nconst r0 2\nyield\nend", api.Budget{Steps: 9, Fuel: 1, Runs: 9}, false, whole())
}

// 19.1: the search, worked out by lists, each place from the start on.
func TestModel(t *testing.T) {
	var told struct{ complete, short, cut, spun, repeat int }
	var of struct{ least, wantedAlready, none, waits, other int }
	for i, x := range tasks(400) {
		m := model{t: t, p: x.p, b: x.b, most: 150}
		m.on(nil, nil, false)
		if len(m.all) > m.most {
			continue
		}
		want := m.all[:min(len(m.all), x.b.Runs)]
		complete := len(m.all) <= x.b.Runs && !m.spun && !slices.ContainsFunc(want, func(r api.Run) bool { return r.Cut })
		switch {
		case len(m.all) > x.b.Runs:
			told.short++
		case m.spun:
			told.spun++
		case !complete:
			told.cut++
		case len(want) > 1:
			told.complete++
		}
		if slices.ContainsFunc(want, func(r api.Run) bool { return r.Repeat }) {
			told.repeat++
		}
		of.least += m.told.least
		of.wantedAlready += m.told.wantedAlready
		of.none += m.told.none
		of.waits += m.told.waits
		of.other += m.told.other
		l, e := dpor.All(x.p, x.b)
		if e != api.OK || l.Complete != complete || !slices.EqualFunc(l.All, want, same) {
			t.Errorf("%d: %v %v, not %v %v", i, l, e, want, complete)
		}
		if g, e := dpor.Roots(x.p, x.b); e != api.OK || !slices.Equal(g, roots(want)) {
			t.Errorf("%d: Roots %v %v", i, g, e)
		}
	}
	if min(told.complete, told.cut, told.repeat) < 30 || min(told.short, told.spun) < 15 {
		t.Errorf("told %+v", told)
	}
	if min(of.wantedAlready, of.none, of.waits, of.other) < 50 || of.least < 5 {
		t.Errorf("wanted %+v", of)
	}
}
