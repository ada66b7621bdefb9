package bound_test

import (
	"slices"
	"testing"

	"scarab/api"
	"scarab/bound"
	"scarab/sched"
	"scarab/tree"
)

// 20.4: each run has at most so many preemptions, and is a run of tree, cut where its is; they rise.
func TestRunsLaws(t *testing.T) {
	var told struct{ runs, cut int }
	for i, x := range tasks(80) {
		for k := range 4 {
			l, e := bound.All(x.p, k, x.b)
			if e != api.OK || len(l.All) > x.b.Runs {
				t.Fatalf("%d: %d runs, %v", i, len(l.All), e)
			}
			for n, r := range l.All {
				run, e, at := sched.Run(x.p, r.Picks, x.b)
				maximal, _ := sched.Maximal(x.p, r.Picks, x.b)
				if e != api.OK || run.Cut != r.Cut || maximal == r.Cut || r.Repeat {
					t.Errorf("%d: run %d: %v at %d, cut %v, maximal %v: %v", i, n, e, at, run.Cut, maximal, r)
				}
				if n > 0 && byPicks(l.All[n-1], r) >= 0 {
					t.Errorf("%d: run %d does not rise: %v, %v", i, n, l.All[n-1], r)
				}
				if spent, e := bound.Count(x.p, r.Picks, x.b); spent > k || e != api.OK {
					t.Errorf("%d, %d: %v has %d preemptions, %v", i, k, r, spent, e)
				}
				told.runs++
				if r.Cut {
					told.cut++
				}
			}
		}
	}
	if told.runs < 2000 || told.cut < 1000 {
		t.Errorf("told %+v", told)
	}
}

// 20.4, 20.5, P10: where tree is complete, so is each search with a bound; its runs are those of tree that have at most so
// many preemptions, in their order, so that they grow; from the most that a run has on they are all.
func TestOfTree(t *testing.T) {
	var told struct{ some, all, twice int }
	for i, x := range tasks(300) {
		all, e := tree.All(x.p, x.b)
		if e != api.OK {
			t.Fatal(e)
		}
		if !all.Complete || len(all.All) < 2 {
			continue
		}
		spent := map[int][]api.Run{}
		most := 0
		for _, r := range all.All {
			n, _ := bound.Count(x.p, r.Picks, x.b)
			most = max(most, n)
			for k := n; k < 20; k++ {
				spent[k] = append(spent[k], r)
			}
		}
		for _, k := range []int{0, 1, 2, 3, max(most-1, 0), most, most + 1} {
			l, e := bound.All(x.p, k, x.b)
			if e != api.OK || !l.Complete || !slices.EqualFunc(l.All, spent[k], same) {
				t.Errorf("%d, %d: %v %v, not %v", i, k, l, e, spent[k])
			}
			if k < most {
				told.some++
			}
			if k >= most && len(l.All) != len(all.All) {
				t.Errorf("%d: by %d of %d there are %d of %d", i, k, most, len(l.All), len(all.All))
			}
		}
		last, _, _ := tree.Ends(x.p, x.b)
		if s, is, e := bound.Ends(x.p, api.MaxSteps, x.b); !is || e != api.OK || !slices.Equal(s, last) {
			t.Errorf("%d: Ends %v %v", i, is, e)
		}
		told.all++
		if most > 1 {
			told.twice++
		}
	}
	if min(told.some, told.all, told.twice) < 40 {
		t.Errorf("told %+v", told)
	}
}

// 20.5, P10: Grow does not fall, where all is complete; it comes to how many runs tree has, if these have few enough
// preemptions.
func TestGrows(t *testing.T) {
	var told struct{ complete, rises, all int }
	for i, x := range tasks(120) {
		l, is, e := bound.Grow(x.p, 16, x.b)
		if e != api.OK || len(l) != 17 {
			t.Fatalf("%d: %v %v", i, l, e)
		}
		if !is {
			continue
		}
		told.complete++
		if !slices.IsSorted(l) || l[0] < 1 {
			t.Errorf("%d: %v", i, l)
		}
		if l[16] > l[0] {
			told.rises++
		}
		if all, _ := tree.All(x.p, x.b); all.Complete && x.b.Steps <= 17 {
			told.all++
			if l[16] != len(all.All) {
				t.Errorf("%d: %v, not %d", i, l, len(all.All))
			}
		}
	}
	if told.complete < 30 || told.rises < 10 || told.all < 10 {
		t.Errorf("told %+v", told)
	}
}

// 20.2: with more runs it goes on where it ended; it stays complete with more of both.
func TestBudgets(t *testing.T) {
	var told struct{ on, complete int }
	for i, x := range tasks(100) {
		b := x.b
		b.Runs = 100
		k := i % 4
		most, _ := bound.All(x.p, k, b)
		for n := 0; n <= len(most.All)+1; n += 1 + n/4 {
			b.Runs = n
			l, e := bound.All(x.p, k, b)
			if e != api.OK || !slices.EqualFunc(l.All, most.All[:min(n, len(most.All))], same) {
				t.Errorf("%d: by %d runs %v %v, not of %v", i, n, l.All, e, most.All)
			}
			if len(most.All) < 100 && l.Complete != (most.Complete && n >= len(most.All)) {
				t.Errorf("%d: by %d runs of %d complete: %v", i, n, len(most.All), l.Complete)
			}
			told.on++
		}
		if !most.Complete {
			continue
		}
		told.complete++
		for _, more := range []api.Budget{{Steps: b.Steps + 1, Runs: 100}, {Steps: api.MaxSteps, Runs: api.MaxRuns}} {
			more.Fuel = b.Fuel
			if l, e := bound.All(x.p, k, more); e != api.OK || !l.Complete || !slices.EqualFunc(l.All, most.All, same) {
				t.Errorf("%d: with %v: %v %v, not %v", i, more, l, e, most)
			}
		}
	}
	if told.on < 300 || told.complete < 20 {
		t.Errorf("told %+v", told)
	}
}
