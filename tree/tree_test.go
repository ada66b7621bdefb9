package tree_test

import (
	"slices"
	"strings"
	"testing"

	"scarab/api"
	"scarab/canon"
	"scarab/sample"
	"scarab/sched"
	"scarab/tree"
)

// 15.1: the classes are the keys of the runs that are not cut, the ends their last states, both complete as the runs are.
func TestClassesAndEnds(t *testing.T) {
	var told struct{ classes, ends, fewer, cut, part int }
	for i, x := range tasks(200) {
		l, _ := tree.All(x.p, x.b)
		want := keys(t, x.p, l.All, x.b, false)
		k, is, e := tree.Classes(x.p, x.b)
		if e != api.OK || is != l.Complete || !slices.Equal(k, want) {
			t.Errorf("%d: Classes %q %v %v, not %q %v", i, k, is, e, want, l.Complete)
		}
		last := ends(t, x.p, l.All, x.b.Fuel)
		s, is, e := tree.Ends(x.p, x.b)
		if e != api.OK || is != l.Complete || !slices.Equal(s, last) {
			t.Errorf("%d: Ends %v %v %v, not %v %v", i, s, is, e, last, l.Complete)
		}
		if len(k) > 1 {
			told.classes++
		}
		if len(s) > 1 {
			told.ends++
		}
		if len(k) < len(l.All) && l.Complete {
			told.fewer++
		}
		if !slices.Equal(want, keys(t, x.p, l.All, x.b, true)) {
			told.cut++
		}
		if !l.Complete && len(k) > 0 {
			told.part++
		}
	}
	if min(told.classes, told.ends, told.fewer, told.cut, told.part) < 10 {
		t.Errorf("told %+v", told)
	}
}

// 15.1: what runs of stores, of yields, and of such as are cut come to: keys are sorted, ends stand as the runs do.
func TestSorted(t *testing.T) {
	k, is, e := tree.Classes(parsed(t, stores), plenty)
	if want := []string{
		"0,0,0,62,0,1,0:4,0,1:5,0,1:5,1,1;0,0,1,51,0,0,0:1,0,1:5,0,1;1,1,1,51,0,1,0:1,0,1:5,1,1;",
		"0,0,0,62,0,1,0:4,0,1:5,0,1:5,1,1;1,1,1,51,0,1,0:1,0,1:5,1,1;0,0,1,51,0,0,0:1,0,1:5,0,1;",
	}; !slices.Equal(k, want) || !is || e != api.OK {
		t.Errorf("Classes: %q %v %v", k, is, e)
	}
	// both write what they are: the last one is what stays, first 1, then 0
	s, is, e := tree.Ends(parsed(t, stores), plenty)
	if e != api.OK || !is || len(s) != 2 || s[0].Vars[0] != 1 || s[1].Vars[0] != 0 {
		t.Errorf("Ends: %v %v %v", s, is, e)
	}
	if s, is, e := tree.Ends(parsed(t, pair), plenty); e != api.OK || !is || len(s) != 1 || s[0].Gos[1].Status != api.GoDone {
		t.Errorf("Ends of two runs: %v %v %v", s, is, e)
	}
	// what is cut has neither, what is not cut has both, complete or not
	for n, want := range []int{0, 0, 0, 2} {
		k, is, e := tree.Classes(parsed(t, stores), budget(n, 9))
		s, was, e1 := tree.Ends(parsed(t, stores), budget(n, 9))
		if len(k) != want || len(s) != want || is != (n == 3) || was != is || e != api.OK || e1 != api.OK {
			t.Errorf("%d steps: %q %v, %v %v", n, k, is, s, was)
		}
		k, is, e = tree.Classes(parsed(t, stores), budget(9, n))
		s, was, e1 = tree.Ends(parsed(t, stores), budget(9, n))
		if len(k) != min(n, 2) || len(s) != min(n, 2) || is != (n >= 2) || was != is || e != api.OK || e1 != api.OK {
			t.Errorf("%d runs: %q %v, %v %v", n, k, is, s, was)
		}
	}
}

// firsts asks which goroutines are ready behind picks.
func firsts(t *testing.T, what, text string, picks []api.Pick, b api.Budget, want ...int) {
	t.Helper()
	if l, e := tree.Firsts(parsed(t, text), picks, b); e != api.OK || !slices.Equal(l, want) {
		t.Errorf("%s: %v %v, not %v", what, l, e, want)
	}
}

// 15.2: the goroutines that have a ready pick, each once.
func TestFirsts(t *testing.T) {
	firsts(t, "the start", pair, nil, plenty, 0)
	firsts(t, "the start, no step", pair, []api.Pick{}, api.Budget{Fuel: 9}, 0)
	firsts(t, "both", pair, gos(0), plenty, 0, 1)
	firsts(t, "both, cut", pair, gos(0), budget(1, 0), 0, 1)
	firsts(t, "one has ended", pair, gos(0, 0), plenty, 1)
	firsts(t, "the other one has", pair, gos(0, 1), plenty, 0)
	firsts(t, "all have", pair, gos(0, 1, 0), plenty)
	firsts(t, "a deadlock", stuck, gos(0), plenty)
	firsts(t, "two alternatives", choice, gos(0, 0), plenty, 0)
	firsts(t, "spun", none, nil, api.Budget{Steps: 9})
	many := strings.Replace(pair, "spawn _ f1 r0\n", strings.Repeat("spawn _ f1 r0\n", 5), 1)
	firsts(t, "six", many, gos(0, 0, 0, 0, 0), plenty, 0, 1, 2, 3, 4, 5)
	firsts(t, "six but one", many, gos(0, 0, 0, 0, 0, 3), plenty, 0, 1, 2, 4, 5)
	told := 0
	for i, x := range tasks(300) {
		x.b.Steps = 30
		picks, _ := sched.Choose(x.p, sample.Choices(uint64(i), i%9), x.b)
		open, _ := ready(t, x.p, picks, x.b.Fuel)
		var want []int
		for g := range api.MaxGos {
			if slices.ContainsFunc(open, func(pick api.Pick) bool { return pick.Go == g }) {
				want = append(want, g)
			}
		}
		if l, e := tree.Firsts(x.p, picks, x.b); e != api.OK || !slices.Equal(l, want) {
			t.Errorf("%d: %v %v, not %v", i, l, e, want)
		}
		if len(want) > 1 {
			told++
		}
	}
	if told < 50 {
		t.Errorf("told %d", told)
	}
}

// 15.2: the keys of all runs that are handed in, be they cut or parts of runs, whatever else they say of themselves.
func TestKeys(t *testing.T) {
	told := 0
	for i, x := range tasks(150) {
		l, _ := tree.All(x.p, x.b)
		all := slices.Clone(l.All)
		slices.Reverse(all)
		for n := range all {
			all[n].Cut, all[n].Repeat = n%2 == 0, n%3 == 0
			if n%5 == 4 {
				all[n].Picks = all[n].Picks[:len(all[n].Picks)/2]
			}
		}
		all = append(all, l.All...)
		want := keys(t, x.p, all, x.b, true)
		if k, e := tree.Keys(x.p, all, x.b); e != api.OK || !slices.Equal(k, want) {
			t.Errorf("%d: %q %v, not %q", i, k, e, want)
		}
		if len(want) > 1 && slices.ContainsFunc(l.All, func(r api.Run) bool { return r.Cut }) {
			told++
		}
	}
	if told < 20 {
		t.Errorf("told %d", told)
	}
}

// 15.2: no runs, runs without picks, as many as there may be; Runs of the budget does not matter.
func TestKeysEdges(t *testing.T) {
	p := parsed(t, pair)
	for _, l := range [][]api.Run{nil, {}} {
		if k, e := tree.Keys(p, l, api.Budget{}); len(k) != 0 || e != api.OK {
			t.Errorf("no runs: %q %v", k, e)
		}
	}
	if k, e := tree.Keys(p, make([]api.Run, api.MaxRuns), api.Budget{}); !slices.Equal(k, []string{""}) || e != api.OK {
		t.Errorf("most runs: %q %v", k, e)
	}
	l := []api.Run{{Picks: gos(0, 1)}, {Picks: gos(0)}, {Picks: gos(0, 0, 1)}, {Picks: gos(0, 1, 0)}, {}}
	k, e := tree.Keys(p, l, budget(3, 0))
	if len(k) != 4 || e != api.OK || k[0] != "" || !slices.IsSorted(k) {
		t.Errorf("parts: %q %v", k, e)
	}
	var events []api.Event
	if x, e, _ := sched.Run(p, gos(0), plenty); e == api.OK {
		events = x.Events
	}
	if key, _ := canon.Key(events); k[1] != key {
		t.Errorf("%q, not %q", k[1], key)
	}
}
