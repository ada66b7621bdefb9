package pct_test

import (
	"slices"
	"testing"

	"scarab/api"
	"scarab/pct"
	"scarab/sched"
)

// sweeps asks for the runs of a sweep, and whether they are complete.
func sweeps(t *testing.T, what, text string, n, d int, b api.Budget, complete bool, want ...api.Run) {
	t.Helper()
	l, e := pct.Sweep(parsed(t, text), n, d, b)
	if e != api.OK || l.Complete != complete || !slices.EqualFunc(l.All, want, same) {
		t.Errorf("%s, %d with %d: %v %v, not %v %v", what, n, d, l, e, want, complete)
	}
}

// 22.3: the orders as lists, then the changes; of several with the same picks the first one counts.
func TestSweeps(t *testing.T) {
	for d := range 3 {
		for n := 1; n <= 4; n++ {
			sweeps(t, "nothing", none, n, d, budget(0, 1), true, whole())
			sweeps(t, "alone", lone, n, d, budget(1, 1), true, whole(0))
		}
	}
	sweeps(t, "two that yield", pair, 1, 0, plenty, true, whole(0, 0, 1))
	sweeps(t, "two that yield", pair, 2, 0, plenty, true, whole(0, 0, 1), whole(0, 1, 0))
	// at 0 main is put last, and 1 goes ahead of it; so it is at 1; at 2 nothing is changed.
	sweeps(t, "two that yield", pair, 1, 1, plenty, true, whole(0, 1, 0), whole(0, 0, 1))
	// at 0 main is put last, at 1 the other one.
	sweeps(t, "two that yield", pair, 1, 2, plenty, true, whole(0, 0, 1), whole(0, 1, 0))
	sweeps(t, "three", three, 1, 0, plenty, true, whole(0, 0, 0, 1, 2))
	sweeps(t, "three", three, 2, 0, plenty, true, whole(0, 0, 0, 1, 2), whole(0, 1, 0, 0, 2))
	// the orders 0 1 2, 0 2 1, 1 0 2, 1 2 0, 2 0 1; by 2 1 0, where 1 comes ahead of 2, it is as by 1 2 0.
	sweeps(t, "three", three, 3, 0, plenty, true, whole(0, 0, 0, 1, 2), whole(0, 0, 0, 2, 1), whole(0, 1, 0, 0, 2),
		whole(0, 1, 0, 2, 0), whole(0, 0, 2, 0, 1))
	sweeps(t, "three", three, 1, 1, plenty, true, whole(0, 1, 0, 2, 0), whole(0, 0, 1, 2, 0), whole(0, 0, 0, 2, 1), whole(0, 0, 0, 1, 2))
	sweeps(t, "a select", choice, 2, 0, plenty, true,
		api.Run{Picks: append(gos(0, 0), api.Pick{Alt: 1}, api.Pick{Alt: 2}, api.Pick{Go: 1})},
		api.Run{Picks: append(gos(0, 0, 1, 0), api.Pick{Alt: 1}, api.Pick{Alt: 2})})
}

// 22.3: as soon as there would be one run more than there may be, it ends: one that was there already is none; cut ones.
func TestSweepBudgets(t *testing.T) {
	sweeps(t, "no run", pair, 2, 0, budget(3, 0), false)
	sweeps(t, "no run, nothing is ready", none, 1, 0, budget(0, 0), false)
	sweeps(t, "one run too few", pair, 2, 0, budget(3, 1), false, whole(0, 0, 1))
	sweeps(t, "just enough", pair, 2, 0, budget(3, 2), true, whole(0, 0, 1), whole(0, 1, 0))
	sweeps(t, "just enough, many times", pair, 4, 2, budget(3, 2), true, whole(0, 0, 1), whole(0, 1, 0))
	sweeps(t, "the same again and again", pair, 1, 0, budget(3, 1), true, whole(0, 0, 1))
	sweeps(t, "one step too few", pair, 2, 0, budget(2, 9), false, cut(0, 0), cut(0, 1))
	sweeps(t, "no step", pair, 2, 1, budget(0, 9), false, cut())
	sweeps(t, "for ever", ring, 4, 2, budget(7, 9), false, cut(0, 0, 0, 0, 0, 0, 0))
	sweeps(t, "for ever", ring, 4, 2, budget(api.MaxSteps, api.MaxRuns), false, cut(make([]int, api.MaxSteps)...))
	some := "scarab\natomic 0\nfunc 0 1\nspawn _ f1 r0\nconst r0 1\nstore v0 r0\nend\nfunc 0 1\nload r0 v0\nif r0 @3\nyield\nend"
	sweeps(t, "one of two is cut", some, 2, 0, budget(3, 9), false, whole(0, 0, 1), cut(0, 1, 1))
	sweeps(t, "that one is not there", some, 1, 0, budget(3, 9), true, whole(0, 0, 1))
}

// 22.3: it is complete, if it did not end early and no run is cut: a spun goroutine does not matter here.
func TestSweepSpun(t *testing.T) {
	sweeps(t, "in one run", spins, 2, 0, plenty, true, whole(0, 0, 1), whole(0, 1, 0))
	sweeps(t, "at the start", none, 1, 0, api.Budget{Steps: 9, Runs: 9}, true, whole())
}

// 22.3: changes come at the steps 0 to 23 alone, two of them at unlike ones.
func TestSweepSteps(t *testing.T) {
	text := lasting(30)
	run := func(at int) api.Run { return api.Run{Picks: late(30, at)} }
	var one []api.Run
	for at := 1; at < pct.MaxAt; at++ {
		one = append(one, run(at))
	}
	sweeps(t, "one change", text, 1, 1, plenty, true, one...)
	// 0 and 1 leave the other one last; 0 and another one let it come at 1; the first one of two is 22 at most.
	two := append([]api.Run{run(31)}, one[:pct.MaxAt-2]...)
	sweeps(t, "two changes", text, 1, 2, plenty, true, two...)
	sweeps(t, "none", text, 2, 0, plenty, true, run(31), run(1))
	for _, x := range []struct {
		n, most, at, d int
		e              api.Errno
	}{
		{1, 0, 31, 0, api.OK}, {1, 0, 1, 0, api.ErrNone}, {1, 1, 1, 1, api.OK}, {2, 1, 1, 0, api.OK}, {1, 2, 23, 1, api.OK}, {4, 2, 23, 1, api.OK},
		{4, 0, 23, 0, api.ErrNone}, {4, 2, 24, 0, api.ErrNone}, {4, 2, 25, 0, api.ErrNone}, {2, 2, 2, 1, api.OK},
	} {
		d, e := pct.Depth(parsed(t, text), x.n, x.most, late(30, x.at), plenty)
		if d != x.d || e != x.e {
			t.Errorf("Depth of %+v: %d %v", x, d, e)
		}
	}
}

// 22.4: the least number of changes; just these picks, no more and no fewer; by a budget's steps, whatever its runs.
func TestDepth(t *testing.T) {
	p := parsed(t, three)
	for _, x := range []struct {
		n, most int
		picks   []api.Pick
		b       api.Budget
		d       int
		e       api.Errno
	}{
		{1, 0, gos(0, 0, 0, 1, 2), plenty, 0, api.OK},
		{1, 0, gos(0, 0, 0, 1, 2), budget(5, 0), 0, api.OK},
		{1, 2, gos(0, 0, 0, 2, 1), budget(5, 0), 1, api.OK},
		{1, 0, gos(0, 0, 0, 2, 1), plenty, 0, api.ErrNone},
		{2, 2, gos(0, 0, 0, 2, 1), plenty, 1, api.OK},
		{3, 2, gos(0, 0, 0, 2, 1), plenty, 0, api.OK},
		{1, 1, gos(0, 0, 2, 1, 0), plenty, 0, api.ErrNone},
		{4, 0, gos(0, 0, 2, 1, 0), plenty, 0, api.ErrNone},
		{4, 2, gos(0, 0, 2, 1, 0), plenty, 1, api.OK},
		{1, 2, gos(0, 1, 0, 0, 2), plenty, 2, api.OK},
		{1, 1, gos(0, 1, 0, 0, 2), plenty, 0, api.ErrNone},
		{2, 1, gos(0, 1, 0, 0, 2), plenty, 0, api.OK},
		{4, 2, gos(0, 0, 0, 1), plenty, 0, api.ErrNone},
		{4, 2, gos(0, 0, 0, 1), budget(4, 0), 0, api.OK},
		{4, 2, gos(0, 0, 0, 1, 2), budget(4, 0), 0, api.ErrNone},
		{4, 2, nil, plenty, 0, api.ErrNone},
		{4, 2, nil, budget(0, 0), 0, api.OK},
		{4, 2, gos(0, 0, 0, 1, 2, 2), plenty, 0, api.ErrNone},
		{4, 2, gos(0, 0, 0, 0), plenty, 0, api.ErrNone},
		{4, 2, gos(7), plenty, 0, api.ErrNone},
		{4, 2, []api.Pick{{Go: -1, Alt: -1}}, plenty, 0, api.ErrNone},
		{4, 2, make([]api.Pick, api.MaxSteps), plenty, 0, api.ErrNone},
	} {
		if d, e := pct.Depth(p, x.n, x.most, x.picks, x.b); d != x.d || e != x.e {
			t.Errorf("%+v: %d %v", x, d, e)
		}
	}
}

// 22.3, 22.4: by the chapter's words, of sampled programs; how deep the runs of each sweep are.
func TestSweepModel(t *testing.T) {
	var told struct{ complete, short, cut, some int }
	var depths [4]int
	for i, x := range tasks(240) {
		n, most := 1+i%4, i/4%3
		if n*most > 4 && i%5 > 0 { // there are far more of these
			n = 1
		}
		var sweeps [][]api.Run
		for d := range most + 1 {
			all := swept(t, x.p, n, d, x.b)
			sweeps = append(sweeps, all)
			want := all[:min(len(all), x.b.Runs)]
			complete := len(all) <= x.b.Runs && !slices.ContainsFunc(all, isCut)
			l, e := pct.Sweep(x.p, n, d, x.b)
			if e != api.OK || l.Complete != complete || !slices.EqualFunc(l.All, want, same) {
				t.Errorf("%d, %d with %d: %v %v, not %v %v", i, n, d, l, e, want, complete)
			}
			switch {
			case len(all) > x.b.Runs:
				told.short++
			case !complete:
				told.cut++
			default:
				told.complete++
			}
			if len(want) > 4 {
				told.some++
			}
		}
		asked := slices.Concat(sweeps...)
		if robin, _ := sched.Robin(x.p, x.b); len(robin) > 0 {
			asked = append(asked, api.Run{Picks: robin}, api.Run{Picks: robin[1:]}, api.Run{Picks: robin[:len(robin)-1]})
		}
		for _, r := range asked {
			for most := range sweeps {
				d := slices.IndexFunc(sweeps[:most+1], func(l []api.Run) bool { return contains(l, r.Picks) })
				want, wrong := max(d, 0), api.OK
				if d < 0 {
					wrong = api.ErrNone
				}
				if got, e := pct.Depth(x.p, n, most, r.Picks, x.b); got != want || e != wrong {
					t.Errorf("%d: Depth of %d to %d of %v: %d %v, not %d %v", i, n, most, r.Picks, got, e, want, wrong)
				}
				depths[d+1]++
			}
		}
	}
	if min(told.complete, told.cut, told.some) < 30 || told.short < 10 || slices.Min(depths[:]) < 30 {
		t.Errorf("told %+v, depths %v", told, depths)
	}
}

// 22.7: the runs are unlike and legal, cut where sched's are; with more changes there are all that there are with fewer,
// where no run is too long for a change behind it.
func TestSweepLaws(t *testing.T) {
	var told struct{ runs, more, grown int }
	for i, x := range tasks(200) {
		x.b.Runs = api.MaxRuns
		n := 1 + i%4
		var fewer []api.Run
		for d := range 3 {
			l, e := pct.Sweep(x.p, n, d, x.b)
			if e != api.OK {
				t.Fatal(e)
			}
			for k, r := range l.All {
				told.runs++
				run, e, at := sched.Run(x.p, r.Picks, x.b)
				if e != api.OK || run.Cut != r.Cut || r.Repeat || contains(l.All[:k], r.Picks) {
					t.Errorf("%d: run %d: %v at %d, cut %v: %v", i, k, e, at, run.Cut, r)
				}
				if maximal, _ := sched.Maximal(x.p, r.Picks, x.b); maximal == r.Cut {
					t.Errorf("%d: run %d: %v is maximal: %v", i, k, r, maximal)
				}
			}
			for _, r := range fewer {
				if len(r.Picks) > pct.MaxAt-d {
					continue
				}
				told.more++
				if !contains(l.All, r.Picks) {
					t.Errorf("%d: with %d changes there is no %v", i, d, r.Picks)
				}
			}
			if len(l.All) > len(fewer) && d > 0 {
				told.grown++
			}
			fewer = l.All
		}
	}
	if told.runs < 2000 || told.more < 500 || told.grown < 30 {
		t.Errorf("told %+v", told)
	}
}
