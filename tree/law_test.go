package tree_test

import (
	"slices"
	"testing"

	"scarab/api"
	"scarab/canon"
	"scarab/sample"
	"scarab/sched"
	"scarab/tree"
)

// 15.3: each run is legal, and maximal unless it is cut; they rise; none is a beginning of another one.
func TestRunsLaws(t *testing.T) {
	told := 0
	for i, x := range tasks(200) {
		l, e := tree.All(x.p, x.b)
		if e != api.OK || len(l.All) > x.b.Runs {
			t.Fatalf("%d: %d runs, %v", i, len(l.All), e)
		}
		for n, r := range l.All {
			run, e, at := sched.Run(x.p, r.Picks, x.b)
			maximal, _ := sched.Maximal(x.p, r.Picks, x.b)
			if e != api.OK || run.Cut != r.Cut || maximal == r.Cut || r.Repeat {
				t.Errorf("%d: run %d: %v at %d, cut %v, maximal %v: %v", i, n, e, at, run.Cut, maximal, r)
			}
			if n > 0 && byPicks(l.All[n-1], r) >= 0 {
				t.Errorf("%d: run %d does not rise: %v, %v", i, n, l.All[n-1], r)
			}
			for _, other := range l.All[:n] {
				m := min(len(other.Picks), len(r.Picks))
				if slices.Equal(other.Picks[:m], r.Picks[:m]) {
					t.Errorf("%d: %v is a beginning of %v, or turned about", i, other, r)
				}
			}
			told++
		}
	}
	if told < 5000 {
		t.Errorf("told %d", told)
	}
}

// 15.3, P2: if it is complete, each maximal schedule is a run, and has its class and its end.
func TestEachMaximal(t *testing.T) {
	told := 0
	for i, x := range tasks(200) {
		l, _ := tree.All(x.p, x.b)
		if !l.Complete || len(l.All) == 1 {
			continue
		}
		told++
		classes, _, _ := tree.Classes(x.p, x.b)
		last, _, _ := tree.Ends(x.p, x.b)
		for seed := range uint64(40) {
			picks, e := sched.Choose(x.p, sample.Choices(seed, x.b.Steps), x.b)
			if e != api.OK {
				t.Fatal(e)
			}
			run, _, _ := sched.Run(x.p, picks, x.b)
			key, _ := canon.Key(run.Events)
			if _, there := slices.BinarySearchFunc(l.All, api.Run{Picks: picks}, byPicks); !there {
				t.Errorf("%d: %v is no run", i, picks)
			}
			if !slices.Contains(classes, key) || !slices.Contains(last, run.End) {
				t.Errorf("%d: %v has no class or no end", i, picks)
			}
		}
	}
	if told < 40 {
		t.Errorf("told %d", told)
	}
}

// 15.4: with more runs they go on where they ended; where it is complete, it stays so with more of both.
func TestBudgets(t *testing.T) {
	var told struct{ on, complete int }
	for i, x := range tasks(200) {
		b := x.b
		b.Runs = 150
		most, _ := tree.All(x.p, b)
		for n := 0; n <= len(most.All)+1; n += 1 + n/3 {
			b.Runs = n
			l, _ := tree.All(x.p, b)
			want := most.All[:min(n, len(most.All))]
			if !slices.EqualFunc(l.All, want, same) {
				t.Errorf("%d: with %d runs %v, not %v", i, n, l.All, want)
			}
			if len(most.All) < 150 && l.Complete != (most.Complete && n >= len(most.All)) {
				t.Errorf("%d: with %d runs of %d complete: %v", i, n, len(most.All), l.Complete)
			}
			told.on++
		}
		if !most.Complete {
			continue
		}
		told.complete++
		for _, more := range []api.Budget{{Steps: b.Steps + 1, Runs: 151}, {Steps: b.Steps, Runs: 500}, {Steps: 100, Runs: 150}, {Steps: api.MaxSteps, Runs: api.MaxRuns}} {
			more.Fuel = b.Fuel
			l, e := tree.All(x.p, more)
			if e != api.OK || !l.Complete || !slices.EqualFunc(l.All, most.All, same) {
				t.Errorf("%d: with %v: %v %v, not %v", i, more, l, e, most)
			}
		}
	}
	if told.on < 500 || told.complete < 60 {
		t.Errorf("told %+v", told)
	}
}
