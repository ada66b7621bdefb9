package pct_test

import (
	"slices"
	"testing"

	"scarab/api"
	"scarab/pct"
	"scarab/sample"
	"scarab/sched"
)

// runs asks for the picks of the run by an order and changes.
func runs(t *testing.T, what, text string, order, changes []int, b api.Budget, want []api.Pick) {
	t.Helper()
	if l, e := pct.Run(parsed(t, text), order, changes, b); e != api.OK || !slices.Equal(l, want) {
		t.Errorf("%s: %v %v, not %v", what, l, e, want)
	}
}

// 22.1, 22.2: the chapter's example.
func TestExample(t *testing.T) {
	runs(t, "0 1", pair, rising(), nil, plenty, gos(0, 0, 1))
	runs(t, "1 0", pair, []int{1, 0, 2, 3, 4, 5}, nil, plenty, gos(0, 1, 0))
	runs(t, "0 1, changed at 1", pair, rising(), []int{1}, plenty, gos(0, 1, 0))
	p := parsed(t, pair)
	if l, e := pct.Guide(p, gos(0, 1, 0), plenty); !slices.Equal(l, []int{1}) || e != api.OK {
		t.Errorf("Guide %v %v", l, e)
	}
	if d, e := pct.Depth(p, 2, 1, gos(0, 1, 0), plenty); d != 0 || e != api.OK {
		t.Errorf("Depth %v %v", d, e)
	}
}

// 22.1: the first one that has a ready pick is taken, whoever else stands ahead of it; who waits is passed over, and comes
// as soon as it is ready.
func TestOrders(t *testing.T) {
	runs(t, "nothing", none, rising(), []int{0}, plenty, nil)
	runs(t, "alone", lone, []int{5, 4, 3, 2, 1, 0}, nil, plenty, gos(0))
	runs(t, "falling", three, []int{5, 4, 3, 2, 1, 0}, nil, plenty, gos(0, 1, 0, 2, 0))
	runs(t, "main last", three, []int{3, 1, 2, 4, 5, 0}, nil, plenty, gos(0, 1, 0, 2, 0))
	runs(t, "2 ahead of main, 1 behind", three, []int{2, 0, 1, 3, 4, 5}, nil, plenty, gos(0, 0, 2, 0, 1))
	runs(t, "1 waits", waits, []int{1, 0, 2, 3, 4, 5}, nil, plenty, gos(0, 0, 0, 0, 1, 2, 2))
	runs(t, "1 waits, 2 is next", waits, []int{1, 2, 0, 3, 4, 5}, nil, plenty, gos(0, 0, 0, 2, 2, 0, 1))
}

// 22.1: each change puts the first one that is ready at the end, behind those too that are not there; several at one step
// one behind the other; one that is alone is put there too; those at steps that are not come to change nothing.
func TestChanges(t *testing.T) {
	runs(t, "alone, at 0", pair, rising(), []int{0}, plenty, gos(0, 1, 0))
	runs(t, "alone twice", pair, rising(), []int{0, 0}, plenty, gos(0, 1, 0))
	runs(t, "at 0 and back", pair, rising(), []int{0, 1}, plenty, gos(0, 0, 1))
	runs(t, "twice at 1", pair, rising(), []int{1, 1}, plenty, gos(0, 0, 1))
	runs(t, "three times at 1", pair, rising(), []int{1, 1, 1}, plenty, gos(0, 1, 0))
	runs(t, "at the last step", three, rising(), []int{4}, plenty, gos(0, 0, 0, 1, 2))
	runs(t, "ahead of it", three, rising(), []int{3}, plenty, gos(0, 0, 0, 2, 1))
	runs(t, "at the end", three, rising(), []int{5}, plenty, gos(0, 0, 0, 1, 2))
	runs(t, "further on", three, rising(), []int{6, 100, 255, 255}, plenty, gos(0, 0, 0, 1, 2))
	runs(t, "two at 2", three, rising(), []int{2, 2}, plenty, gos(0, 0, 2, 0, 1))
	runs(t, "one at 1, one at 2", three, rising(), []int{1, 2}, plenty, gos(0, 1, 0, 2, 0))
	// 1 waits at the front: main is put last, behind 5; so 2 goes ahead of it, and 1 as soon as it is ready.
	runs(t, "who waits stays", waits, []int{1, 0, 2, 3, 4, 5}, []int{3}, plenty, gos(0, 0, 0, 2, 2, 0, 1))
	runs(t, "who waits stays, 2 is put last too", waits, []int{1, 0, 2, 3, 4, 5}, []int{3, 4}, plenty, gos(0, 0, 0, 2, 0, 1, 2))
	many := slices.Repeat([]int{1}, pct.MaxChanges)
	runs(t, "as many as may be, even", pair, rising(), many, plenty, gos(0, 0, 1))
	runs(t, "one fewer", pair, rising(), many[1:], plenty, gos(0, 1, 0))
}

// 22.1: at most as many picks as there are steps; the runs of the budget do not matter.
func TestSteps(t *testing.T) {
	runs(t, "no step", pair, rising(), nil, budget(0, 9), nil)
	runs(t, "one fewer", pair, []int{1, 0, 2, 3, 4, 5}, nil, budget(2, 0), gos(0, 1))
	runs(t, "just enough", pair, []int{1, 0, 2, 3, 4, 5}, nil, budget(3, 0), gos(0, 1, 0))
	runs(t, "for ever", ring, rising(), nil, budget(api.MaxSteps, 0), make([]api.Pick, api.MaxSteps))
	runs(t, "no fuel", none, rising(), nil, api.Budget{Steps: 9}, nil)
}

// 22.1: of the alternatives the first one that is ready, the else if none is.
func TestFirstAlternative(t *testing.T) {
	runs(t, "the second channel, then the else", choice, rising(), nil, plenty, append(gos(0, 0), api.Pick{Alt: 1}, api.Pick{Alt: 2}, api.Pick{Go: 1}))
	runs(t, "the first channel, then the second", choice, []int{1, 0, 2, 3, 4, 5}, nil, plenty, append(gos(0, 0, 1, 0), api.Pick{Alt: 1}, api.Pick{Alt: 2}))
	runs(t, "the first one behind", choice, rising(), []int{3}, plenty, append(gos(0, 0), api.Pick{Alt: 1}, api.Pick{Go: 1}, api.Pick{}, api.Pick{Alt: 2}))
}

// 22.1: by the chapter's words, of sampled programs, orders and changes.
func TestRunModel(t *testing.T) {
	var told struct{ long, changed, cut, alts int }
	for i, x := range tasks(500) {
		order, list := someOrder(uint64(i)), someChanges(uint64(i), i%7, 1+x.b.Steps)
		want := worked(t, x.p, order, list, x.b)
		l, e := pct.Run(x.p, order, list, x.b)
		if e != api.OK || !slices.Equal(l, want) {
			t.Errorf("%d: by %v, %v: %v %v, not %v", i, order, list, l, e, want)
		}
		if len(l) > 4 {
			told.long++
		}
		if plain, _ := pct.Run(x.p, order, nil, x.b); !slices.Equal(plain, l) {
			told.changed++
		}
		if _, ready := end(t, x.p, l, x.b.Fuel); len(ready) > 0 {
			told.cut++
		}
		if slices.ContainsFunc(l, func(pick api.Pick) bool { return pick.Alt > 0 }) {
			told.alts++
		}
	}
	if told.long < 100 || told.changed < 50 || told.cut < 50 || told.alts < 20 {
		t.Errorf("told %+v", told)
	}
}

// guides asks for the changes by which picks are run.
func guides(t *testing.T, what, text string, picks []api.Pick, want ...int) {
	t.Helper()
	if l, e := pct.Guide(parsed(t, text), picks, plenty); e != api.OK || !slices.Equal(l, want) {
		t.Errorf("%s: %v %v, not %v", what, l, e, want)
	}
}

// 22.2: as many changes at each step as goroutines stand ahead that are ready; who was put last stands there.
func TestGuide(t *testing.T) {
	guides(t, "no picks", pair, nil)
	guides(t, "as they rise", pair, gos(0, 0, 1))
	guides(t, "a beginning", pair, gos(0, 1), 1)
	guides(t, "two stand ahead", three, gos(0, 0, 2), 2, 2)
	guides(t, "and both come", three, gos(0, 0, 2, 0, 1), 2, 2)
	guides(t, "and both come, the other way", three, gos(0, 0, 2, 1, 0), 2, 2, 3)
	guides(t, "main behind 1, and ahead of 2", three, gos(0, 1, 0, 0, 2), 1, 3)
	guides(t, "who waits does not count", waits, gos(0, 0, 0, 2, 0, 1, 2), 3, 4)
	guides(t, "first alternatives", choice, append(gos(0, 0, 1, 0), api.Pick{Alt: 1}, api.Pick{Alt: 2}), 2)
	p := parsed(t, pair)
	if l, e := pct.Guide(p, gos(0, 1, 0), budget(3, 0)); e != api.OK || !slices.Equal(l, []int{1}) {
		t.Errorf("with just these steps: %v %v", l, e)
	}
}

// 22.2: a pick that is not the first alternative, be it ready, wherever it stands.
func TestNoGuide(t *testing.T) {
	p := parsed(t, choice)
	for _, picks := range [][]api.Pick{append(gos(0, 0, 1), api.Pick{Alt: 1}), append(gos(0, 0, 1), api.Pick{Alt: 1}, api.Pick{}, api.Pick{Alt: 2})} {
		if l, e := pct.Guide(p, picks, plenty); len(l) > 0 || e != api.ErrNone {
			t.Errorf("%v: %v %v", picks, l, e)
		}
		if _, e := pct.Depth(p, 4, 2, picks, plenty); e != api.ErrNone {
			t.Errorf("%v: Depth %v", picks, e)
		}
		if l, e := pct.Guide(p, append(picks, api.Pick{Go: 5}), plenty); len(l) > 0 || e != api.ErrPick {
			t.Errorf("%v, then one that is not ready: %v %v", picks, l, e)
		}
	}
}

// 22.2, 22.6: with all goroutines ready, and each time the last one of them taken, the changes are as many as may be.
func TestMostChanges(t *testing.T) {
	p := parsed(t, rings)
	b := budget(api.MaxSteps, 0)
	picks := gos(0, 0, 0, 0, 0)
	order := rising()
	for len(picks) < api.MaxSteps {
		g := order[len(order)-1]
		picks = append(picks, api.Pick{Go: g})
		// all others are put behind it, one behind the other.
		order = append([]int{g}, order[:len(order)-1]...)
	}
	l, e := pct.Guide(p, picks, b)
	if e != api.OK || len(l) != 5*(api.MaxSteps-5) || len(l) > pct.MaxChanges {
		t.Fatalf("%d changes, %v", len(l), e)
	}
	if run, e := pct.Run(p, rising(), l, b); e != api.OK || !slices.Equal(run, picks) {
		t.Errorf("%v %v", run, e)
	}
}

// 22.2, 22.6: by the chapter's words, of sampled picks; by what Guide tells they are run, as far as they go, and all of
// them, if they are all of a run.
func TestGuideModel(t *testing.T) {
	var told struct{ some, many, none, whole int }
	for i, x := range tasks(900) {
		x.b.Steps = max(x.b.Steps, 8)
		choices := sample.Choices(uint64(i), i%25)
		picks, e := sched.Choose(x.p, choices, x.b)
		if e != api.OK {
			t.Fatal(e)
		}
		want, is := guided(t, x.p, picks, x.b.Fuel)
		l, e := pct.Guide(x.p, picks, x.b)
		if !is {
			told.none++
			if len(l) > 0 || e != api.ErrNone {
				t.Errorf("%d: %v: %v %v", i, picks, l, e)
			}
			continue
		}
		if e != api.OK || !slices.Equal(l, want) {
			t.Errorf("%d: %v: %v %v, not %v", i, picks, l, e, want)
		}
		run, e := pct.Run(x.p, rising(), l, x.b)
		if e != api.OK || len(run) < len(picks) || !slices.Equal(run[:len(picks)], picks) {
			t.Errorf("%d: by %v: %v %v, not %v", i, l, run, e, picks)
		}
		if len(l) > 0 {
			told.some++
		}
		if len(l) > 3 {
			told.many++
		}
		if len(run) == len(picks) {
			told.whole++
		}
	}
	if min(told.some, told.many, told.whole) < 50 || told.none < 10 {
		t.Errorf("told %+v", told)
	}
}

// 22.5: what Run tells is legal, maximal if it has fewer picks than steps, and all its alternatives are first ones.
func TestRunLaws(t *testing.T) {
	var told struct{ maximal, full int }
	for i, x := range tasks(300) {
		l, e := pct.Run(x.p, someOrder(uint64(i)), someChanges(uint64(i), i%40, 30), x.b)
		if e != api.OK || len(l) > x.b.Steps {
			t.Fatalf("%d: %v %v", i, l, e)
		}
		maximal, e := sched.Maximal(x.p, l, x.b)
		if e != api.OK || !maximal && len(l) < x.b.Steps {
			t.Errorf("%d: %v: maximal %v, %v", i, l, maximal, e)
		}
		for n, pick := range l {
			if _, ready := end(t, x.p, l[:n], x.b.Fuel); !slices.Contains(fronts(rising(), ready), pick) {
				t.Errorf("%d: at %d of %v is no first alternative", i, n, l)
			}
		}
		if maximal {
			told.maximal++
		} else {
			told.full++
		}
	}
	if min(told.maximal, told.full) < 50 {
		t.Errorf("told %+v", told)
	}
}
