package persist_test

import (
	"slices"
	"strings"
	"testing"

	"scarab/api"
	"scarab/persist"
	"scarab/sample"
	"scarab/state"
)

// sets asks for the persistent set behind picks.
func sets(t *testing.T, what, text string, picks []api.Pick, want ...int) {
	t.Helper()
	p := parsed(t, text)
	if l, e := persist.Set(p, behind(t, p, picks, 50)); e != api.OK || !slices.Equal(l, want) {
		t.Errorf("%s: Set %v %v, not %v", what, l, e, want)
	}
}

// closes asks for the closure of a goroutine behind picks.
func closes(t *testing.T, what, text string, picks []api.Pick, g int, want ...int) {
	t.Helper()
	p := parsed(t, text)
	if l, e := persist.Closure(p, behind(t, p, picks, 50), g); e != api.OK || !slices.Equal(l, want) {
		t.Errorf("%s: Closure of %d %v %v, not %v", what, g, l, e, want)
	}
}

// 18.1: the chapter's example 1.
func TestExampleOne(t *testing.T) {
	sets(t, "apart, main waits", apart, gos(0, 0), 1)
	sets(t, "the first is done", apart, gos(0, 0, 1, 1), 2)
	sets(t, "main is ready", strings.Replace(apart, "const r0 1\n", "const r0 0\n", 1), gos(0, 0), 0)
	sets(t, "both store", both, gos(0, 0), 1, 2)
	sets(t, "one has stored", both, gos(0, 0, 2), 1)
	sets(t, "both have", both, gos(0, 0, 2, 1))
}

// 18.1: a closure grows by those who may touch, some time, what a member touches next, and by those whom these ask for.
func TestClosure(t *testing.T) {
	// f1 stores to v0; f2 loads v1 and then v0; f3 yields, then stores to v1; f4 yields, and never touches them
	chain := `scarab
		var 0
		var 0
		func 0 1
		spawn _ f1 r0
		spawn _ f2 r0
		spawn _ f3 r0
		spawn _ f4 r0
		end
		func 0 1
		store v0 r0
		end
		func 0 1
		load r0 v1
		load r0 v0
		end
		func 0 1
		yield
		store v1 r0
		end
		func 0 1
		yield
		load r0 v1
		end`
	all := gos(0, 0, 0, 0)
	closes(t, "by one, and another one for it", chain, all, 1, 1, 2, 3)
	closes(t, "by one", chain, all, 2, 2, 3)
	closes(t, "nobody touches a yield", chain, all, 3, 3)
	closes(t, "nor another one", chain, all, 4, 4)
	closes(t, "who comes to a store has loads with it", chain, append(all, gos(3)...), 3, 2, 3, 4)
	sets(t, "the fewest that are ready", chain, all, 3)
	sets(t, "of several as few the least", chain, append(all, gos(3)...), 4)
	sets(t, "a load, once the other one has ended", chain, append(all, gos(3, 3)...), 2)
	closes(t, "loads do not ask for each other", chain, append(all, gos(3, 3, 4)...), 2, 2)
	closes(t, "a store asks for a load some time", chain, append(all, gos(3, 3)...), 1, 1, 2)
	// main may still spawn: each but main might be the one
	closes(t, "before a spawn", chain, gos(0, 0), 1, 0, 1, 2)
	closes(t, "main is not spawned; but its spawn makes others", chain, gos(0, 0), 0, 0)
	sets(t, "main alone spawns", chain, gos(0, 0), 0)
}

// 18.1: members that are not ready count for nothing; a closure that has fewer ready ones may have more members.
func TestFewestReady(t *testing.T) {
	// main waits for the lock that it holds; f1 takes it some time; f2 and f3 store to v0
	text := `scarab
		var 0
		mutex
		func 0 1
		lock l0
		spawn _ f1 r0
		spawn _ f2 r0
		spawn _ f2 r0
		lock l0
		end
		func 0 1
		try r0 l0
		end
		func 0 1
		store v0 r0
		end`
	all := gos(0, 0, 0, 0)
	closes(t, "with main, which is not ready", text, all, 1, 0, 1)
	closes(t, "two that are ready", text, all, 2, 2, 3)
	sets(t, "one ready of two", text, all, 0, 1)
	sets(t, "then two of two", text, append(all, gos(1)...), 2, 3)
	sets(t, "then one of one", text, append(all, gos(1, 3)...), 2)
	sets(t, "then nothing is ready", text, append(all, gos(1, 3, 2)...))
	closes(t, "who is not ready has a closure too", text, append(all, gos(1, 3, 2)...), 0, 0)
}

// 18.1: who is joined is asked for, as its steps touch itself; so is who spawns, by those who join.
func TestJoin(t *testing.T) {
	text := "scarab\nfunc 0 1\nspawn r0 f1 r0\njoin r0\nend\nfunc 0 0\nyield\nyield\nend"
	closes(t, "who joins", text, gos(0), 0, 0, 1)
	// by its text main may read each goroutine, which the step of the other one writes
	closes(t, "who is joined", text, gos(0), 1, 0, 1)
	sets(t, "who is joined", text, gos(0), 0, 1)
	sets(t, "both are done but main", text, gos(0, 1, 1), 0)
	offer := "scarab\nchan 0\nfunc 0 1\nspawn _ f1 r0\nsend c0 r0\nend\nfunc 0 1\nyield\nrecv r0 c0 _\nend"
	closes(t, "who made an offer", offer, gos(0, 0), 0, 0, 1)
	closes(t, "who takes it some time", offer, gos(0, 0), 1, 1)
	closes(t, "who takes it now", offer, gos(0, 0, 1), 1, 0, 1)
}

// 18.1: a set may be empty, in any order, and have one twice.
func TestClosed(t *testing.T) {
	p := parsed(t, both)
	s := behind(t, p, gos(0, 0), 50)
	for _, x := range []struct {
		set  []int
		want bool
	}{
		{nil, true}, {[]int{}, true}, {[]int{1}, false}, {[]int{2}, false}, {[]int{1, 2}, true}, {[]int{2, 1}, true},
		{[]int{1, 1}, false}, {[]int{2, 1, 2}, true}, {[]int{1, 1, 2, 2, 1, 1}, true}, {[]int{1, 1, 1, 1, 1, 1}, false},
	} {
		if is, e := persist.Closed(p, s, x.set); is != x.want || e != api.OK {
			t.Errorf("%v: %v %v", x.set, is, e)
		}
	}
}

// 18.1: of states of sampled programs, be it that no run comes to them, all by the chapter's words.
func TestSetModel(t *testing.T) {
	var told struct{ sets, two, some, open, waiting int }
	for seed := range uint64(150) {
		p := sample.Small(seed)
		switch seed % 4 {
		case 1:
			p = sample.Prog(seed)
		case 3:
			p = sample.Racy(seed)
		}
		for n, s := range states(t, p, seed) {
			want := persistent(t, p, s)
			l, e := persist.Set(p, s)
			if e != api.OK || !slices.Equal(l, want) {
				t.Errorf("%d, %d: Set %v %v, not %v", seed, n, l, e, want)
			}
			live := state.Live(s)
			for _, g := range live {
				want := closure(t, p, s, g)
				if l, e := persist.Closure(p, s, g); e != api.OK || !slices.Equal(l, want) {
					t.Errorf("%d, %d: Closure of %d %v %v, not %v", seed, n, g, l, e, want)
				}
				if len(want) > 1 && len(want) < len(live) {
					told.some++
				}
			}
			for _, set := range subsets(live) {
				want := isClosed(t, p, s, set)
				if is, e := persist.Closed(p, s, set); e != api.OK || is != want {
					t.Errorf("%d, %d: Closed of %v %v %v", seed, n, set, is, e)
				}
				if !want {
					told.open++
				}
			}
			if len(l) > 0 {
				told.sets++
			}
			if len(l) > 1 && len(l) < len(live) {
				told.two++
			}
			if readies(ready(t, p, s), live) < len(live) && len(l) > 0 {
				told.waiting++
			}
		}
	}
	if told.sets < 500 || min(told.two, told.some, told.open, told.waiting) < 50 {
		t.Errorf("told %+v", told)
	}
}
