package source_test

import (
	"slices"
	"testing"

	"scarab/api"
	"scarab/depend"
	"scarab/dpor"
	"scarab/sample"
	"scarab/sched"
	"scarab/source"
	"scarab/tree"
)

// 21.4: more goroutines than a source set's are one; the goroutines that are ready are one; Least's set is one, and no
// lesser one is.
func TestSets(t *testing.T) {
	var told struct{ grown, ready, lesser int }
	for i, x := range tasks(t, 150) {
		x.b.Runs = min(x.b.Runs, 50)
		ask := func(set []int) bool {
			is, _, e := source.Is(x.p, x.picks, set, x.b)
			if e != api.OK {
				t.Fatal(e)
			}
			return is
		}
		least, _, e := source.Least(x.p, x.picks, x.b)
		if e != api.OK || !ask(least) {
			t.Errorf("%d: Least %v %v is none", i, least, e)
		}
		for g := range api.MaxGos {
			for h := range api.MaxGos {
				if more := append(slices.Clone(least), g, h); len(more) <= api.MaxGos {
					told.grown++
					if !ask(more) {
						t.Errorf("%d: %v is one, %v not", i, least, more)
					}
				}
			}
		}
		ready, e := tree.Firsts(x.p, x.picks, x.b)
		if e != api.OK {
			t.Fatal(e)
		}
		if len(ready) > 0 {
			told.ready++
			if !ask(ready) {
				t.Errorf("%d: %v are ready, and none", i, ready)
			}
		}
		for _, set := range allSets() {
			if slices.Equal(set, least) {
				break
			}
			told.lesser++
			if ask(set) {
				t.Errorf("%d: %v is one, and less than %v", i, set, least)
			}
		}
	}
	if told.grown < 1000 || told.ready < 80 || told.lesser < 200 {
		t.Errorf("told %+v", told)
	}
}

// 21.4: initials are weak ones, and these are ready behind the picks.
func TestInitialsAreWeak(t *testing.T) {
	told := 0
	for i, x := range tasks(t, 300) {
		x.b.Steps = 30
		both, e := sched.Choose(x.p, sample.Choices(uint64(i), 20), x.b)
		if e != api.OK {
			t.Fatal(e)
		}
		run, _, _ := sched.Run(x.p, both, x.b)
		for n := range len(both) + 1 {
			first, e := source.Initials(run.Events, n)
			l, e1 := source.Weak(x.p, both[:n], both[n:], x.b)
			ready, e2 := tree.Firsts(x.p, both[:n], x.b)
			if e != api.OK || e1 != api.OK || e2 != api.OK {
				t.Fatal(e, e1, e2)
			}
			for _, g := range first {
				told++
				if !slices.Contains(l, g) {
					t.Errorf("%d: %d is an initial behind %d, not a weak one", i, g, n)
				}
			}
			for _, g := range l {
				if !slices.Contains(ready, g) {
					t.Errorf("%d: %d is a weak initial behind %d, and not ready", i, g, n)
				}
			}
		}
	}
	if told < 1000 {
		t.Errorf("told %d", told)
	}
}

// 21.5: equivalent continuations have the same initials, and the same weak ones.
func TestEquivalent(t *testing.T) {
	told := 0
	for i, x := range tasks(t, 300) {
		x.b.Steps = 30
		picks, e := sched.Choose(x.p, sample.Choices(uint64(i), 15), x.b)
		if e != api.OK || len(picks) < 3 {
			continue
		}
		from := i % 3
		one, _, _ := sched.Run(x.p, picks, x.b)
		want, _ := source.Initials(one.Events, from)
		weakly, _ := source.Weak(x.p, picks[:from], picks[from:], x.b)
		for _, choice := range sample.Choices(uint64(i), 30) {
			at := from + int(uint(choice)%uint(len(picks)-from))
			if at+1 == len(picks) {
				continue
			}
			other, is, e := depend.Swap(x.p, picks, at, x.b)
			if e != api.OK {
				t.Fatal(e)
			}
			if !is {
				continue
			}
			picks = other
			told++
			run, _, _ := sched.Run(x.p, picks, x.b)
			if l, e := source.Initials(run.Events, from); !slices.Equal(l, want) || e != api.OK {
				t.Errorf("%d: %v %v, not %v", i, l, e, want)
			}
			if l, e := source.Weak(x.p, picks[:from], picks[from:], x.b); !slices.Equal(l, weakly) || e != api.OK {
				t.Errorf("%d: Weak %v %v, not %v", i, l, e, weakly)
			}
		}
	}
	if told < 500 {
		t.Errorf("told %d", told)
	}
}

// 19.5: if dpor is complete, its Roots are a source set behind no pick.
func TestRoots(t *testing.T) {
	told := 0
	for i, x := range tasks(t, 300) {
		l, e := dpor.All(x.p, x.b)
		if e != api.OK {
			t.Fatal(e)
		}
		roots, _ := dpor.Roots(x.p, x.b)
		if !l.Complete || len(l.All) < 2 {
			continue
		}
		told++
		if is, _, e := source.Is(x.p, nil, roots, x.b); !is || e != api.OK {
			t.Errorf("%d: %v: %v %v", i, roots, is, e)
		}
	}
	if told < 40 {
		t.Errorf("told %d", told)
	}
}

// 21.3: all were seen just if tree's search is complete, where that begins behind no pick too; behind picks it may be, if
// it is not as a whole.
func TestOfTree(t *testing.T) {
	var told struct{ all, part, behind int }
	for i, x := range tasks(t, 400) {
		l, e := tree.All(x.p, x.b)
		if e != api.OK {
			t.Fatal(e)
		}
		if _, all, e := source.Least(x.p, nil, x.b); all != l.Complete || e != api.OK {
			t.Errorf("%d: %v %v, not %v", i, all, e, l.Complete)
		}
		_, all, e := source.Is(x.p, x.picks, nil, x.b)
		switch {
		case l.Complete:
			told.all++
			if !all || e != api.OK {
				t.Errorf("%d: not all behind %v, %v", i, x.picks, e)
			}
		case all:
			told.behind++
		default:
			told.part++
		}
	}
	if told.all < 30 || told.part < 30 || told.behind < 5 {
		t.Errorf("told %+v", told)
	}
}
