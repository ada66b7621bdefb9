package shrink_test

import (
	"slices"
	"testing"

	"scarab/api"
	"scarab/dpor"
	"scarab/sample"
	"scarab/sched"
	"scarab/shrink"
	"scarab/verdict"
)

// 24.4, P6: what is left is legal, shows the same, has no more picks and no more switches, and is least; to make it shorter
// once more leaves it, and tells how many moves are shorter.
func TestShowsTheSame(t *testing.T) {
	changed := 0
	for i, x := range tasks(t, 1500) {
		l, _, e := shrink.Shrink(x.p, x.picks, x.f, x.b)
		if e != api.OK {
			t.Fatalf("%d: %v", i, e)
		}
		if n, e := sched.Legal(x.p, l, x.b); n != len(l) || e != api.OK {
			t.Errorf("%d: %v is not legal: %d %v", i, l, n, e)
		}
		if is, e := verdict.Shows(x.p, l, x.f, x.b); !is || e != api.OK {
			t.Errorf("%d: %v does not show %v: %v", i, l, x.f, e)
		}
		if len(l) > len(x.picks) || sched.Switches(l) > sched.Switches(x.picks) {
			t.Errorf("%d: %v of %v", i, l, x.picks)
		}
		if is, e := shrink.Least(x.p, l, x.f, x.b); !is || e != api.OK {
			t.Errorf("%d: %v is not least: %v", i, l, e)
		}
		again, n, e := shrink.Shrink(x.p, l, x.f, x.b)
		if e != api.OK || !slices.Equal(again, l) || n != len(shorterOf(l)) {
			t.Errorf("%d: once more %v %d %v, not %v %d", i, again, n, e, l, len(shorterOf(l)))
		}
		if !slices.Equal(l, x.picks) {
			changed++
			if !isShorter(l, x.picks) {
				t.Errorf("%d: %v is not shorter than %v", i, l, x.picks)
			}
		}
	}
	if changed < 300 {
		t.Errorf("told %d", changed)
	}
}

// 24.5: few tries.
func TestFewTries(t *testing.T) {
	most := 0.0
	for i, x := range tasks(t, 1500) {
		n := len(x.picks)
		_, tries, e := shrink.Shrink(x.p, x.picks, x.f, x.b)
		bound := 3 * n * (2*n + 1)
		if e != api.OK || tries > bound {
			t.Errorf("%d: of %d picks %d tries, %v", i, n, tries, e)
		}
		if n > 0 {
			most = max(most, float64(tries)/float64(bound))
		}
	}
	if most < 0.1 {
		t.Errorf("never more than %f of so many", most)
	}
}

// 24.6: what a failure shows, or a race, has no pick behind the one that shows it.
func TestNoPickBehind(t *testing.T) {
	var kinds [api.KindRace + 1]int
	for i, x := range tasks(t, 1500) {
		l, _, _ := shrink.Shrink(x.p, x.picks, x.f, x.b)
		if x.f.Kind == api.KindDeadlock || x.f.Kind == api.KindLeak || len(l) == 0 {
			continue
		}
		kinds[x.f.Kind]++
		for n := range l {
			if fits(t, x.p, l[:n], x.f, x.b) {
				t.Errorf("%d: %v is shown by %d of %v", i, x.f, n, l)
			}
		}
	}
	for _, kind := range []int{api.KindAssert, api.KindFault, api.KindRace} {
		if kinds[kind] < 30 {
			t.Errorf("told %v", kinds)
		}
	}
}

// 24.3, 24.4, P6: reports whose schedules are made shorter: each by itself.
func TestReports(t *testing.T) {
	told := 0
	for seed := range uint64(200) {
		p := sample.Small(seed)
		if seed%2 == 0 {
			p = sample.Racy(seed)
		}
		b := api.Budget{Steps: 20, Fuel: 30, Runs: 60}
		runs, e := dpor.All(p, b)
		if e != api.OK {
			t.Fatal(e)
		}
		l, e := verdict.Report(p, runs.All, b)
		if e != api.OK {
			t.Fatal(e)
		}
		short, e := shrink.All(p, l, b)
		if e != api.OK || len(short) != len(l) {
			t.Fatalf("%d: %v %v", seed, short, e)
		}
		for n, x := range short {
			picks, _, e := shrink.Shrink(p, l[n].Picks, l[n].Found, b)
			if e != api.OK || !same(x, api.Finding{Found: l[n].Found, Picks: picks}) {
				t.Errorf("%d: %v, not %v %v", seed, x, picks, e)
			}
			if is, e := shrink.Least(p, x.Picks, x.Found, b); !is || e != api.OK {
				t.Errorf("%d: %v is not least: %v", seed, x, e)
			}
			told++
		}
	}
	if told < 200 {
		t.Errorf("told %d", told)
	}
}

// 24.2: what hangs on the budget: the fuel, and no more; fewer steps are enough, if they are for the picks.
func TestBudgets(t *testing.T) {
	for i, x := range tasks(t, 400) {
		l, n, _ := shrink.Shrink(x.p, x.picks, x.f, x.b)
		for _, b := range []api.Budget{{Steps: len(x.picks), Fuel: x.b.Fuel}, {Steps: api.MaxSteps, Fuel: x.b.Fuel, Runs: api.MaxRuns}} {
			if other, tries, e := shrink.Shrink(x.p, x.picks, x.f, b); e != api.OK || !slices.Equal(other, l) || tries != n {
				t.Errorf("%d: with %v: %v %d %v, not %v %d", i, b, other, tries, e, l, n)
			}
		}
	}
}
