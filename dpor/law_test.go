package dpor_test

import (
	"slices"
	"testing"

	"scarab/api"
	"scarab/dpor"
	"scarab/sample"
	"scarab/sched"
	"scarab/tree"
)

// 19.4, P3: no two runs that are no repeats are equivalent, complete or not, cut or not.
func TestNoTwoOfAClass(t *testing.T) {
	var told struct{ complete, cut, short int }
	for i, x := range tasks(400) {
		l, e := dpor.All(x.p, x.b)
		if e != api.OK {
			t.Fatal(e)
		}
		k := keys(t, x.p, l.All, x.b, false)
		slices.Sort(k)
		if n := len(k); len(slices.Compact(k)) != n {
			t.Errorf("%d: of %d runs two are equivalent", i, n)
		}
		switch {
		case len(k) < 2:
		case l.Complete:
			told.complete++
		case slices.ContainsFunc(l.All, func(r api.Run) bool { return r.Cut }):
			told.cut++
		default:
			told.short++
		}
	}
	if min(told.complete, told.cut) < 20 || told.short < 5 {
		t.Errorf("told %+v", told)
	}
}

// 19.3, P2: if it is complete, each maximal schedule is equivalent to a run that is no repeat; so is each repeat, which
// is one; also of programs with more runs than tree goes through.
func TestEachClass(t *testing.T) {
	var told struct{ complete, repeats int }
	for i, x := range tasks(400) {
		l, _ := dpor.All(x.p, x.b)
		if !l.Complete || len(l.All) < 2 {
			continue
		}
		k := keys(t, x.p, l.All, x.b, false)
		for _, other := range keys(t, x.p, l.All, x.b, true) {
			told.repeats++
			if !slices.Contains(k, other) {
				t.Errorf("%d: a repeat repeats nothing", i)
			}
		}
		for seed := range uint64(30) {
			picks, e := sched.Choose(x.p, sample.Choices(seed, x.b.Steps), x.b)
			if e != api.OK {
				t.Fatal(e)
			}
			if !slices.Contains(k, key(t, x.p, picks, x.b)) {
				t.Errorf("%d: %v is equivalent to no run", i, picks)
			}
		}
		told.complete++
	}
	if told.complete < 50 || told.repeats < 100 {
		t.Errorf("told %+v", told)
	}
}

// 19.3, 19.4: the runs are runs of tree, each once, cut where its are; if tree is complete, it is, by the same budget, and
// the classes are the same.
func TestOfTree(t *testing.T) {
	var told struct{ fewer, cut, both int }
	for i, x := range tasks(400) {
		l, _ := dpor.All(x.p, x.b)
		all := x.b
		all.Runs = 3000
		whole, e := tree.All(x.p, all)
		if e != api.OK {
			t.Fatal(e)
		}
		if len(whole.All) == all.Runs {
			continue
		}
		var places []int
		for _, r := range l.All {
			at := slices.IndexFunc(whole.All, func(o api.Run) bool { return slices.Equal(o.Picks, r.Picks) })
			if at < 0 || whole.All[at].Cut != r.Cut {
				t.Errorf("%d: %v is no run of tree", i, r)
			}
			if r.Cut {
				told.cut++
			}
			places = append(places, at)
		}
		slices.Sort(places)
		if len(slices.Compact(places)) != len(l.All) {
			t.Errorf("%d: one run of tree twice", i)
		}
		if len(l.All) < len(whole.All) {
			told.fewer++
		}
		if mine, _ := tree.All(x.p, x.b); mine.Complete {
			told.both++
			classes, _, _ := tree.Classes(x.p, all)
			k := keys(t, x.p, l.All, x.b, false)
			if slices.Sort(k); !l.Complete || !slices.Equal(k, classes) {
				t.Errorf("%d: %v, classes %q, not %q", i, l.Complete, k, classes)
			}
		}
	}
	if told.fewer < 100 || told.cut < 200 || told.both < 50 {
		t.Errorf("told %+v", told)
	}
}

// 19.5: if it is complete, each run of tree has an initial among Roots: one whose first event depends on none ahead of it.
// (What asks so of chapter 21 is not called here: it stands further up.)
func TestRootsAreASource(t *testing.T) {
	told := 0
	for i, x := range tasks(300) {
		l, _ := dpor.All(x.p, x.b)
		roots, e := dpor.Roots(x.p, x.b)
		if e != api.OK {
			t.Fatal(e)
		}
		all, _ := tree.All(x.p, x.b)
		if !l.Complete || !all.Complete {
			continue
		}
		for _, r := range all.All {
			if len(r.Picks) == 0 {
				continue
			}
			at, _ := ran(t, x.p, r.Picks, x.b.Fuel)
			if !slices.ContainsFunc(roots, func(g int) bool { return initial(at.Events, g) }) {
				t.Errorf("%d: %v has no initial in %v", i, r.Picks, roots)
			}
			told++
		}
	}
	if told < 200 {
		t.Errorf("told %d", told)
	}
}

// initial tells whether a goroutine's first event depends on none ahead of it.
func initial(l []api.Event, g int) bool {
	i := slices.IndexFunc(l, func(x api.Event) bool { return x.Go == g })
	return i >= 0 && !depends(l[:i], l[i].Touch[:l[i].Touches])
}

// 19.1: with more runs it goes on where it ended; it stays complete with more of both.
func TestBudgets(t *testing.T) {
	var told struct{ on, complete int }
	for i, x := range tasks(120) {
		b := x.b
		b.Runs = 100
		most, _ := dpor.All(x.p, b)
		for n := 0; n <= len(most.All)+1; n += 1 + n/4 {
			b.Runs = n
			l, e := dpor.All(x.p, b)
			if e != api.OK || !slices.EqualFunc(l.All, most.All[:min(n, len(most.All))], same) {
				t.Errorf("%d: by %d runs %v %v, not of %v", i, n, l.All, e, most.All)
			}
			if len(most.All) < 100 && l.Complete != (most.Complete && n >= len(most.All)) {
				t.Errorf("%d: by %d runs of %d complete: %v", i, n, len(most.All), l.Complete)
			}
			told.on++
		}
		if !most.Complete {
			continue
		}
		told.complete++
		for _, more := range []api.Budget{{Steps: b.Steps + 1, Runs: 100}, {Steps: 100, Runs: 500}, {Steps: api.MaxSteps, Runs: api.MaxRuns}} {
			more.Fuel = b.Fuel
			if l, e := dpor.All(x.p, more); e != api.OK || !l.Complete || !slices.EqualFunc(l.All, most.All, same) {
				t.Errorf("%d: with %v: %v %v, not %v", i, more, l, e, most)
			}
		}
	}
	if told.on < 300 || told.complete < 20 {
		t.Errorf("told %+v", told)
	}
}
