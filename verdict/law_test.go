package verdict_test

import (
	"slices"
	"testing"

	"scarab/api"
	"scarab/bound"
	"scarab/depend"
	"scarab/dpor"
	"scarab/persist"
	"scarab/sched"
	"scarab/sleep"
	"scarab/tree"
	"scarab/verdict"
)

// runs are those of an explorer, which is right about its arguments.
func runs(t *testing.T, all func(api.Prog, api.Budget) (api.Runs, api.Errno), x task) api.Runs {
	t.Helper()
	l, e := all(x.p, x.b)
	if e != api.OK {
		t.Fatal(e)
	}
	return l
}

// report is the report of a task's runs.
func report(t *testing.T, x task, l []api.Run) []api.Finding {
	t.Helper()
	r, e := verdict.Report(x.p, l, x.b)
	if e != api.OK {
		t.Fatal(e)
	}
	return r
}

// 23.3: by the chapter's words, of all runs of sampled programs.
func TestReportModel(t *testing.T) {
	var kinds [api.KindRace + 1]int
	later := 0
	for i, x := range tasks(t, 300) {
		l := runs(t, tree.All, x)
		want := reported(t, x.p, l.All, x.b)
		r := report(t, x, l.All)
		if !slices.EqualFunc(r, want, same) {
			t.Errorf("%d: %v, not %v", i, r, want)
		}
		for _, f := range r {
			kinds[f.Found.Kind]++
			if !slices.Equal(f.Picks, l.All[0].Picks) {
				later++
			}
		}
	}
	if slices.Min(kinds[1:]) < 15 || later < 50 {
		t.Errorf("told %v, later %d", kinds, later)
	}
}

// 23.5: equivalent runs show the same.
func TestEquivalent(t *testing.T) {
	var kinds [api.KindRace + 1]int
	for i, x := range tasks(t, 2400) {
		want, e := verdict.Of(x.p, x.picks, x.b)
		if e != api.OK {
			t.Fatal(e)
		}
		picks := x.picks
		for k := range max(0, len(picks)-1) {
			other, is, e := depend.Swap(x.p, picks, k, x.b)
			if e != api.OK {
				t.Fatal(e)
			}
			if !is {
				continue
			}
			picks = other
			if l, e := verdict.Of(x.p, picks, x.b); e != api.OK || !slices.Equal(l, want) {
				t.Errorf("%d: %v shows %v %v, %v shows %v", i, picks, l, e, x.picks, want)
			}
			for _, f := range want {
				kinds[f.Kind]++
			}
		}
	}
	if slices.Min(kinds[1:]) < 50 {
		t.Errorf("told %v", kinds)
	}
}

// 23.5, P5: each finding of a report is shown by its schedule, whatever the budget, by each explorer.
func TestNoFalseAlarm(t *testing.T) {
	told := 0
	for i, x := range tasks(t, 300) {
		for _, all := range explorers() {
			for _, f := range report(t, x, runs(t, all, x).All) {
				told++
				if n, e := sched.Legal(x.p, f.Picks, x.b); n != len(f.Picks) || e != api.OK {
					t.Errorf("%d: %v is not legal: %d %v", i, f.Picks, n, e)
				}
				if is, e := verdict.Shows(x.p, f.Picks, f.Found, x.b); !is || e != api.OK {
					t.Errorf("%d: %v: %v %v", i, f, is, e)
				}
			}
		}
	}
	if told < 500 {
		t.Errorf("told %d", told)
	}
}

// explorers are those that see every class, if they are complete.
func explorers() []func(api.Prog, api.Budget) (api.Runs, api.Errno) {
	return []func(api.Prog, api.Budget) (api.Runs, api.Errno){tree.All, sleep.All, persist.All, dpor.All}
}

// 23.5: a report of more runs has all that is in the report of those that stand ahead, with the same picks.
func TestReportsGrow(t *testing.T) {
	grown := 0
	for i, x := range tasks(t, 200) {
		l := runs(t, tree.All, x).All
		l = l[:min(len(l), 30)]
		whole := report(t, x, l)
		var last []api.Finding
		for n := range len(l) + 1 {
			r := report(t, x, l[:n])
			for _, f := range last {
				if !slices.ContainsFunc(r, func(g api.Finding) bool { return same(f, g) }) {
					t.Errorf("%d: %v is not in the report of %d runs", i, f, n)
				}
			}
			if len(last) > 0 && len(r) > len(last) {
				grown++
			}
			last = r
		}
		if !slices.EqualFunc(last, whole, same) {
			t.Errorf("%d: %v, not %v", i, last, whole)
		}
	}
	if grown < 20 {
		t.Errorf("told %d", grown)
	}
}

// 23.6: Merge of reports of runs is the report of all of them, one behind the other.
func TestMergeOfReports(t *testing.T) {
	both := 0
	for i, x := range tasks(t, 300) {
		l := runs(t, tree.All, x).All
		l = l[:min(len(l), 60)]
		want := report(t, x, l)
		for n := 0; n <= len(l); n += 1 + len(l)/5 {
			a, b := report(t, x, l[:n]), report(t, x, l[n:])
			if m := verdict.Merge(a, b); !slices.EqualFunc(m, want, same) {
				t.Errorf("%d: %v, not %v", i, m, want)
			}
			half := n / 2
			if m := verdict.Merge(report(t, x, l[:half]), report(t, x, l[half:n]), b); !slices.EqualFunc(m, want, same) {
				t.Errorf("%d: of three %v, not %v", i, m, want)
			}
			if len(a) > 0 && len(b) > 0 {
				both++
			}
		}
		if m := verdict.Merge(want, want); !slices.EqualFunc(m, want, same) {
			t.Errorf("%d: twice %v, not %v", i, m, want)
		}
	}
	if both < 100 {
		t.Errorf("told %d", both)
	}
}

// P4: where an explorer is complete, something stands in its report just if some legal schedule shows it.
func TestFoundJustIfThere(t *testing.T) {
	var kinds [api.KindRace + 1]int
	nothing := 0
	for i, x := range tasks(t, 300) {
		l := runs(t, tree.All, x)
		if !l.Complete {
			continue
		}
		// each legal schedule is a beginning of one that is maximal.
		var all []api.Found
		for _, r := range l.All {
			for n := range len(r.Picks) + 1 {
				all = append(all, shown(t, x.p, r.Picks[:n], x.b)...)
			}
		}
		want := unlike(all)
		for n, explore := range explorers() {
			some := runs(t, explore, x)
			if got := found(report(t, x, some.All)); some.Complete && !slices.Equal(got, want) {
				t.Errorf("%d: the explorer %d: %v, not %v", i, n, got, want)
			}
		}
		for _, f := range want {
			kinds[f.Kind]++
		}
		if len(want) == 0 {
			nothing++
		}
	}
	if min(nothing, slices.Min(kinds[1:])) < 5 {
		t.Errorf("told %v, nothing %d", kinds, nothing)
	}
}

// P10: what the runs with few preemptions show grows with their number, and comes to all.
func TestFewPreemptions(t *testing.T) {
	grown := 0
	for i, x := range tasks(t, 600) {
		l := runs(t, tree.All, x)
		if !l.Complete {
			continue
		}
		var last []api.Found
		for _, k := range []int{0, 1, 2, 3, api.MaxSteps} {
			few, e := bound.All(x.p, k, x.b)
			if e != api.OK {
				t.Fatal(e)
			}
			now := found(report(t, x, few.All))
			for _, f := range last {
				if !slices.Contains(now, f) {
					t.Errorf("%d: %v is not found with %d preemptions", i, f, k)
				}
			}
			if k > 0 && len(now) > len(last) {
				grown++
			}
			last = now
		}
		if all := found(report(t, x, l.All)); !slices.Equal(last, all) {
			t.Errorf("%d: %v, not %v", i, last, all)
		}
	}
	if grown < 10 {
		t.Errorf("told %d", grown)
	}
}
