package persist_test

import (
	"slices"
	"testing"

	"scarab/api"
	"scarab/persist"
	"scarab/sample"
	"scarab/sched"
	"scarab/sleep"
	"scarab/state"
	"scarab/step"
	"scarab/tree"
)

// 18.3: closures, all live goroutines, and what two closed sets both have, are closed; a persistent set has one that is
// ready, if anything is, and is a closure.
func TestClosedSets(t *testing.T) {
	var told struct{ sets, meets, stuck int }
	for seed := range uint64(100) {
		p := sample.Small(seed)
		for n, s := range states(t, p, seed) {
			is := func(what string, set []int) {
				if yes, e := persist.Closed(p, s, set); !yes || e != api.OK {
					t.Errorf("%d, %d: %s: %v is not closed, %v", seed, n, what, set, e)
				}
			}
			live := state.Live(s)
			is("all", live)
			for _, g := range live {
				set, _ := persist.Closure(p, s, g)
				is("a closure", set)
			}
			var closed [][]int
			for _, set := range subsets(live) {
				if yes, _ := persist.Closed(p, s, set); yes {
					closed = append(closed, set)
				}
			}
			for i, a := range closed {
				for _, b := range closed[:i] {
					set := slices.DeleteFunc(slices.Clone(a), func(g int) bool { return !slices.Contains(b, g) })
					is("what both have", set)
					if len(set) > 0 && len(set) < min(len(a), len(b)) {
						told.meets++
					}
				}
			}
			set, e := persist.Set(p, s)
			is("the persistent set", set)
			open := ready(t, p, s)
			if e != api.OK || len(open) > 0 && readies(open, set) == 0 || len(open) == 0 && len(set) > 0 {
				t.Errorf("%d, %d: Set %v %v, where %v is ready", seed, n, set, e, open)
			}
			if len(open) > 0 {
				told.sets++
			} else {
				told.stuck++
			}
		}
	}
	if min(told.sets, told.meets) < 200 || told.stuck < 20 {
		t.Errorf("told %+v", told)
	}
}

// 18.4: whatever the others do, step by step, each step is independent of the next step of each goroutine of the set.
func TestOthersDoNotMatter(t *testing.T) {
	var told struct{ steps, spawned int }
	for i, x := range tasks(300) {
		b := api.Budget{Steps: 30, Fuel: 30}
		picks, _ := sched.Choose(x.p, sample.Choices(uint64(i), 12), b)
		l, e := sched.States(x.p, picks, b)
		if e != api.OK {
			t.Fatal(e)
		}
		for n, s := range l {
			set, e := persist.Set(x.p, s)
			if e != api.OK {
				t.Fatal(e)
			}
			now := s
			for _, choice := range sample.Choices(uint64(i*100+n), 15) {
				others := slices.DeleteFunc(ready(t, x.p, now), func(pick api.Pick) bool { return slices.Contains(set, pick.Go) })
				if len(others) == 0 {
					break
				}
				pick := others[(choice%len(others)+len(others))%len(others)]
				then, event, e := step.Do(x.p, now, pick, b.Fuel)
				if e != api.OK {
					t.Fatal(e)
				}
				for _, g := range set {
					if meet(event.Touch[:event.Touches], next(t, x.p, s, g)) {
						t.Errorf("%d, %d: %v matters to %d of %v", i, n, event, g, set)
					}
				}
				told.steps++
				if pick.Go >= s.Count {
					told.spawned++
				}
				now = then
			}
		}
	}
	if told.steps < 2000 || told.spawned < 20 {
		t.Errorf("told %+v", told)
	}
}

// 18.5, P3: no two runs are equivalent, complete or not, cut or not.
func TestNoTwoOfAClass(t *testing.T) {
	var told struct{ complete, cut, short int }
	for i, x := range tasks(400) {
		l, e := persist.All(x.p, x.b)
		if e != api.OK {
			t.Fatal(e)
		}
		k := keys(t, x.p, l.All, x.b)
		slices.Sort(k)
		if len(slices.Compact(k)) != len(l.All) {
			t.Errorf("%d: of %d runs two are equivalent", i, len(l.All))
		}
		switch {
		case len(l.All) < 2:
		case l.Complete:
			told.complete++
		case slices.ContainsFunc(l.All, func(r api.Run) bool { return r.Cut }):
			told.cut++
		default:
			told.short++
		}
	}
	if min(told.complete, told.cut) < 20 || told.short < 5 {
		t.Errorf("told %+v", told)
	}
}

// 18.5, P2: if it is complete, each maximal schedule is equivalent to a run: by all classes of tree, if that is complete,
// and by schedules that are chosen.
func TestEachClass(t *testing.T) {
	var told struct{ chosen, tree int }
	for i, x := range tasks(400) {
		l, _ := persist.All(x.p, x.b)
		if !l.Complete || len(l.All) < 2 {
			continue
		}
		k := keys(t, x.p, l.All, x.b)
		for seed := range uint64(30) {
			picks, e := sched.Choose(x.p, sample.Choices(seed, x.b.Steps), x.b)
			if e != api.OK {
				t.Fatal(e)
			}
			if !slices.Contains(k, key(t, x.p, picks, x.b)) {
				t.Errorf("%d: %v is equivalent to no run", i, picks)
			}
		}
		told.chosen++
		all := x.b
		all.Runs = 3000
		if classes, is, _ := tree.Classes(x.p, all); is {
			told.tree++
			if slices.Sort(k); !slices.Equal(k, classes) {
				t.Errorf("%d: classes %q, not %q", i, k, classes)
			}
		}
	}
	if min(told.chosen, told.tree) < 30 {
		t.Errorf("told %+v", told)
	}
}

// 18.2, 18.6: each run is legal, maximal unless it is cut, and they rise; where sleep is complete too, it has as many.
func TestBesideSleep(t *testing.T) {
	var told struct{ runs, both, fewer int }
	for i, x := range tasks(400) {
		l, _ := persist.All(x.p, x.b)
		for n, r := range l.All {
			run, e, _ := sched.Run(x.p, r.Picks, x.b)
			maximal, _ := sched.Maximal(x.p, r.Picks, x.b)
			if e != api.OK || run.Cut != r.Cut || maximal == r.Cut || n > 0 && byPicks(l.All[n-1], r) >= 0 {
				t.Errorf("%d: %v: %v, cut %v, maximal %v", i, r, e, run.Cut, maximal)
			}
			told.runs++
		}
		other, _ := sleep.All(x.p, x.b)
		if !l.Complete || !other.Complete {
			continue
		}
		_, given, _ := persist.Tally(x.p, x.b)
		_, more, _ := sleep.Tally(x.p, x.b)
		if len(l.All) != len(other.All) {
			t.Errorf("%d: %d runs, not %d", i, len(l.All), len(other.All))
		}
		told.both++
		if given < more {
			told.fewer++
		}
	}
	if told.runs < 1000 || told.both < 100 || told.fewer < 50 {
		t.Errorf("told %+v", told)
	}
}

// 18.2: with more runs it goes on where it ended; it stays complete with more of both.
func TestBudgets(t *testing.T) {
	var told struct{ on, complete int }
	for i, x := range tasks(120) {
		b := x.b
		b.Runs = 100
		most, _ := persist.All(x.p, b)
		runs, given, _ := persist.Tally(x.p, b)
		for n := 0; n <= runs+given+1; n += 1 + n/4 {
			b.Runs = n
			l, _ := persist.All(x.p, b)
			some, up, e := persist.Tally(x.p, b)
			if e != api.OK || len(l.All) != some || !slices.EqualFunc(l.All, most.All[:some], same) || some+up != min(n, runs+given) || up > given {
				t.Errorf("%d: by %d runs %v, %d and %d, not of %v", i, n, l.All, some, up, most.All)
			}
			if runs+given < 100 && l.Complete != (most.Complete && n >= runs+given) {
				t.Errorf("%d: by %d runs of %d and %d complete: %v", i, n, runs, given, l.Complete)
			}
			told.on++
		}
		if !most.Complete {
			continue
		}
		told.complete++
		for _, more := range []api.Budget{{Steps: b.Steps + 1, Runs: 100}, {Steps: 100, Runs: 500}, {Steps: api.MaxSteps, Runs: api.MaxRuns}} {
			more.Fuel = b.Fuel
			if l, e := persist.All(x.p, more); e != api.OK || !l.Complete || !slices.EqualFunc(l.All, most.All, same) {
				t.Errorf("%d: with %v: %v %v, not %v", i, more, l, e, most)
			}
		}
	}
	if told.on < 300 || told.complete < 20 {
		t.Errorf("told %+v", told)
	}
}
