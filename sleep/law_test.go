package sleep_test

import (
	"slices"
	"testing"

	"scarab/api"
	"scarab/sample"
	"scarab/sched"
	"scarab/sleep"
	"scarab/tree"
)

// 17.3, P3: no two runs are equivalent, complete or not, cut or not.
func TestNoTwoOfAClass(t *testing.T) {
	var told struct{ complete, cut, short int }
	for i, x := range tasks(400) {
		l, e := sleep.All(x.p, x.b)
		if e != api.OK {
			t.Fatal(e)
		}
		k := keys(t, x.p, l.All, x.b)
		slices.Sort(k)
		if len(slices.Compact(k)) != len(l.All) {
			t.Errorf("%d: of %d runs two are equivalent", i, len(l.All))
		}
		switch {
		case len(l.All) < 2:
		case l.Complete:
			told.complete++
		case slices.ContainsFunc(l.All, func(r api.Run) bool { return r.Cut }):
			told.cut++
		default:
			told.short++
		}
	}
	if min(told.complete, told.cut) < 20 || told.short < 5 {
		t.Errorf("told %+v", told)
	}
}

// 17.3, P2: if it is complete, each maximal schedule is equivalent to a run; also of programs with more runs than tree
// goes through.
func TestEachClass(t *testing.T) {
	told := 0
	for i, x := range tasks(400) {
		l, _ := sleep.All(x.p, x.b)
		if !l.Complete || len(l.All) < 2 {
			continue
		}
		k := keys(t, x.p, l.All, x.b)
		for seed := range uint64(30) {
			picks, e := sched.Choose(x.p, sample.Choices(seed, x.b.Steps), x.b)
			if e != api.OK {
				t.Fatal(e)
			}
			if !slices.Contains(k, key(t, x.p, picks, x.b)) {
				t.Errorf("%d: %v is equivalent to no run", i, picks)
			}
		}
		told++
	}
	if told < 50 {
		t.Errorf("told %d", told)
	}
}

// 17.4: the runs are runs of tree, in its order, cut where its are; the classes are the same, if both are complete.
func TestOfTree(t *testing.T) {
	var told struct{ fewer, cut, both int }
	for i, x := range tasks(400) {
		l, _ := sleep.All(x.p, x.b)
		all := x.b
		all.Runs = 3000
		whole, e := tree.All(x.p, all)
		if e != api.OK {
			t.Fatal(e)
		}
		if len(whole.All) == all.Runs {
			continue
		}
		for n, r := range l.All {
			at, there := slices.BinarySearchFunc(whole.All, r, byPicks)
			if !there || !same(whole.All[at], r) {
				t.Errorf("%d: %v is no run of tree", i, r)
			}
			if n > 0 && byPicks(l.All[n-1], r) >= 0 {
				t.Errorf("%d: %v stands behind %v", i, r, l.All[n-1])
			}
			if r.Cut {
				told.cut++
			}
		}
		if len(l.All) < len(whole.All) {
			told.fewer++
		}
		if whole.Complete && l.Complete {
			told.both++
			classes, _, _ := tree.Classes(x.p, all)
			k := keys(t, x.p, l.All, x.b)
			if slices.Sort(k); !slices.Equal(k, classes) {
				t.Errorf("%d: classes %q, not %q", i, k, classes)
			}
		}
	}
	if told.fewer < 100 || told.cut < 200 || told.both < 50 {
		t.Errorf("told %+v", told)
	}
}

// 17.1: with more runs it goes on where it ended; it stays complete with more of both.
func TestBudgets(t *testing.T) {
	var told struct{ on, complete int }
	for i, x := range tasks(120) {
		b := x.b
		b.Runs = 100
		most, _ := sleep.All(x.p, b)
		runs, given, _ := sleep.Tally(x.p, b)
		for n := 0; n <= runs+given+1; n += 1 + n/4 {
			b.Runs = n
			l, _ := sleep.All(x.p, b)
			some, up, e := sleep.Tally(x.p, b)
			if e != api.OK || len(l.All) != some || !slices.EqualFunc(l.All, most.All[:some], same) || some+up != min(n, runs+given) || up > given {
				t.Errorf("%d: by %d runs %v, %d and %d, not of %v", i, n, l.All, some, up, most.All)
			}
			if runs+given < 100 && l.Complete != (most.Complete && n >= runs+given) {
				t.Errorf("%d: by %d runs of %d and %d complete: %v", i, n, runs, given, l.Complete)
			}
			told.on++
		}
		if !most.Complete {
			continue
		}
		told.complete++
		for _, more := range []api.Budget{{Steps: b.Steps + 1, Runs: 100}, {Steps: 100, Runs: 500}, {Steps: api.MaxSteps, Runs: api.MaxRuns}} {
			more.Fuel = b.Fuel
			if l, e := sleep.All(x.p, more); e != api.OK || !l.Complete || !slices.EqualFunc(l.All, most.All, same) {
				t.Errorf("%d: with %v: %v %v, not %v", i, more, l, e, most)
			}
		}
	}
	if told.on < 300 || told.complete < 20 {
		t.Errorf("told %+v", told)
	}
}
