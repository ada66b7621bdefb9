package source_test

import (
	"slices"
	"strings"
	"testing"

	"scarab/api"
	"scarab/source"
)

// sources asks for the least source set behind picks, whether all runs were seen, and of all sets whether they are one:
// just those that have a member of each of the sets that are asked for.
func sources(t *testing.T, what, text string, picks []api.Pick, b api.Budget, all bool, least []int, asks ...[]int) {
	t.Helper()
	p := parsed(t, text)
	if l, is, e := source.Least(p, picks, b); !slices.Equal(l, least) || is != all || e != api.OK {
		t.Errorf("%s: Least %v %v %v, not %v %v", what, l, is, e, least, all)
	}
	for _, set := range allSets() {
		want := found{asks: asks}.isSource(set)
		if is, seen, e := source.Is(p, picks, set, b); is != want || seen != all || e != api.OK {
			t.Errorf("%s: Is of %v: %v %v %v, not %v %v", what, set, is, seen, e, want, all)
		}
	}
}

// 21.3: the chapter's example.
func TestExample(t *testing.T) {
	sources(t, "two that yield", pair, gos(0), plenty, true, []int{0}, []int{0, 1})
	sources(t, "two that store", stores, gos(0), plenty, true, []int{0, 1}, []int{0}, []int{1})
	loads := strings.ReplaceAll(stores, "store v0 r0", "load r0 v0")
	sources(t, "two that load", loads, gos(0), plenty, true, []int{0}, []int{0, 1})
}

// 21.3: members may stand twice, and in any order; one may be no goroutine of the program.
func TestMembers(t *testing.T) {
	p := parsed(t, stores)
	for _, x := range []struct {
		set  []int
		want bool
	}{{[]int{1, 0}, true}, {[]int{1, 0, 1, 1, 0, 5}, true}, {[]int{1, 1}, false}, {[]int{2, 3, 4, 5}, false}, {nil, false}, {[]int{}, false}, {[]int{0, 0, 0, 0, 0, 0}, false}} {
		if is, all, e := source.Is(p, gos(0), x.set, plenty); is != x.want || !all || e != api.OK {
			t.Errorf("%v: %v %v %v", x.set, is, all, e)
		}
	}
}

// 21.3: fewer members come first; of as many the first list, be its greatest member greater; one that is not ready, or is
// not there yet, is of no use.
func TestWhichIsLeast(t *testing.T) {
	sources(t, "couples", couples, gos(0, 0, 0), plenty, true, []int{0, 3}, []int{0, 1}, []int{0, 2}, []int{1, 3}, []int{2, 3})
	fewer := strings.Replace(couples, "spawn _ f2 r0\nstore v0 r0", "spawn _ f1 r0\nyield\nyield", 1)
	sources(t, "one alone", fewer, gos(0, 0, 0), plenty, true, []int{0}, []int{0, 1}, []int{0, 2}, []int{0, 3})
	last := "scarab\nvar 0\nfunc 0 1\nspawn _ f1 r0\nspawn _ f2 r0\nstore v0 r0\nend\nfunc 0 1\nstore v0 r0\nend\nfunc 0 1\nyield\nend"
	sources(t, "the last one alone", last, gos(0, 0), plenty, true, []int{2}, []int{0, 2}, []int{1, 2})
	sources(t, "one waits", waits, gos(0, 0, 0), plenty, true, []int{0}, []int{0, 2})
	sources(t, "behind no pick", couples, nil, plenty, true, []int{0}, []int{0})
	sources(t, "what is spawned may come first", couples, gos(0), plenty, true, []int{0}, []int{0, 1}, []int{0})
	later := "scarab\nvar 0\nfunc 0 1\nspawn _ f1 r0\nstore v0 r0\nend\nfunc 0 1\nspawn _ f2 r0\nend\nfunc 0 1\nstore v0 r0\nend"
	sources(t, "what is spawned matters", later, gos(0), plenty, true, []int{1}, []int{0, 1}, []int{1})
}

// 21.3: what comes behind the first steps matters too: 1 stores behind its yield what main stores at once.
func TestFurtherOn(t *testing.T) {
	text := "scarab\nvar 0\nfunc 0 1\nspawn _ f1 r0\nstore v0 r0\nend\nfunc 0 1\nyield\nstore v0 r0\nend"
	sources(t, "1 first of all", text, gos(0), plenty, true, []int{1}, []int{0, 1}, []int{1})
	crossed := "scarab\nvar 0\nvar 0\nfunc 0 1\nspawn _ f1 r0\nstore v0 r0\nstore v1 r0\nend\nfunc 0 1\nstore v1 r0\nstore v0 r0\nend"
	sources(t, "either", crossed, gos(0), plenty, true, []int{0, 1}, []int{0, 1}, []int{0}, []int{1})
}

// 21.3: a run that ends with the picks asks for nothing; nor does one that is not seen.
func TestNothingIsAsked(t *testing.T) {
	sources(t, "an end", none, nil, plenty, true, nil)
	sources(t, "an end, no step", none, nil, budget(0, 1), true, nil)
	sources(t, "behind all", pair, gos(0, 1, 0), plenty, true, nil)
	sources(t, "behind all, just these steps", pair, gos(0, 1, 0), budget(3, 1), true, nil)
	sources(t, "a deadlock", "scarab\nmutex\nfunc 0 0\nlock l0\nlock l0\nend", gos(0), plenty, true, nil)
	sources(t, "cut there", pair, gos(0), budget(1, 9), false, nil)
	sources(t, "no step", lone, nil, budget(0, 9), false, nil)
	sources(t, "no run", stores, gos(0), budget(9, 0), false, nil)
	sources(t, "no run, at an end", none, nil, budget(0, 0), false, nil)
}

// 21.3: cut ones count as they are: the steps that are left out are no one's first; of more runs than there may be the
// first ones count.
func TestBudgets(t *testing.T) {
	sources(t, "one step each", pair, gos(0), budget(2, 9), false, []int{0, 1}, []int{0}, []int{1})
	sources(t, "all steps", pair, gos(0), budget(3, 2), true, []int{0}, []int{0, 1})
	sources(t, "one run", stores, gos(0), budget(3, 1), false, []int{0}, []int{0})
	sources(t, "both runs", stores, gos(0), budget(3, 2), true, []int{0, 1}, []int{0}, []int{1})
	sources(t, "one of two alike", pair, gos(0), budget(3, 1), false, []int{0}, []int{0, 1})
	sources(t, "behind one run alone", stores, gos(0, 1), budget(3, 1), true, []int{0}, []int{0})
	sources(t, "for ever", ring, gos(0), budget(9, 9), false, []int{0}, []int{0})
	sources(t, "for ever", ring, make([]api.Pick, api.MaxSteps-1), budget(api.MaxSteps, 1), false, []int{0}, []int{0})
}

// 21.3: with a spun goroutine in a state behind the picks, or there already, not all were seen; one that is spun in a run
// that has other beginnings does not matter.
func TestSpun(t *testing.T) {
	sources(t, "in one run", spins, gos(0), plenty, false, []int{0, 1}, []int{0}, []int{1})
	sources(t, "there", spins, gos(0, 0, 1), plenty, false, nil)
	sources(t, "in no run", spins, gos(0, 1), plenty, true, []int{0}, []int{0})
	sources(t, "at the start", none, nil, api.Budget{Steps: 9, Runs: 9}, false, nil)
}

// 21.3: all alternatives of a goroutine are gone on with: by the second one main stores, by the first one it yields.
func TestAlternatives(t *testing.T) {
	text := `scarab
		var 0
		chan 1
		chan 1
		func 0 1
		choose _
		onrecv c0 r0 @4
		onrecv c1 r0 @6
		send c0 r0
		send c1 r0
		spawn _ f1 r0
		select s0
		yield
		end
		store v0 r0
		end
		func 0 1
		store v0 r0
		end`
	sources(t, "ahead of the select", text, gos(0, 0, 0), plenty, true, []int{0}, []int{0, 1}, []int{0})
	sources(t, "behind the first", text, gos(0, 0, 0, 0), plenty, true, []int{0}, []int{0, 1})
	sources(t, "behind the second", text, append(gos(0, 0, 0), api.Pick{Alt: 1}), plenty, true, []int{0, 1}, []int{0}, []int{1})
}

// 21.3: by the chapter's words, of sampled programs behind sampled picks.
func TestModel(t *testing.T) {
	var told struct{ all, part, two, none, no int }
	sets := allSets()
	for i, x := range tasks(t, 800) {
		f, some := worked(t, x.p, x.picks, x.b, 100)
		if !some {
			continue
		}
		want := f.least()
		l, all, e := source.Least(x.p, x.picks, x.b)
		if e != api.OK || all != f.all || !slices.Equal(l, want) {
			t.Errorf("%d: Least %v %v %v, not %v %v", i, l, all, e, want, f.all)
		}
		for n := i % 5; n < len(sets); n += 5 {
			is, all, e := source.Is(x.p, x.picks, sets[n], x.b)
			if e != api.OK || all != f.all || is != f.isSource(sets[n]) {
				t.Errorf("%d: Is of %v: %v %v %v, not %v %v", i, sets[n], is, all, e, !is, f.all)
			}
			if !is {
				told.no++
			}
		}
		switch {
		case len(f.asks) == 0:
			told.none++
		case f.all:
			told.all++
		default:
			told.part++
		}
		if len(want) > 1 {
			told.two++
		}
	}
	if min(told.all, told.part, told.two, told.none) < 30 || told.no < 500 {
		t.Errorf("told %+v", told)
	}
}
