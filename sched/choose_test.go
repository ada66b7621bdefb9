package sched_test

import (
	"math"
	"testing"

	"scarab/api"
	"scarab/sample"
	"scarab/sched"
	"scarab/state"
	"scarab/step"
)

// 9.3: the chapter's example 2, and other numbers where two are ready.
func TestChooseTwo(t *testing.T) {
	p := parsed(t, pair)
	for choice, want := range map[int]int{-1: 1, 0: 0, 1: 1, 2: 0, -2: 0, -3: 1, 101: 1, math.MaxInt: 1, math.MinInt: 0, math.MinInt + 1: 1} {
		l, e := sched.Choose(p, []int{5, choice}, steps(9))
		picked(t, "two ready", l, e, gos(0, want))
	}
}

// 9.3: where three are ready, numbers below 0 count from the end.
func TestChooseThree(t *testing.T) {
	p := parsed(t, "scarab\nfunc 0 0\nspawn _ f1 r0\nspawn _ f1 r0\nyield\nend\nfunc 0 0\nyield\nend")
	for choice, want := range map[int]int{-1: 2, -2: 1, -3: 0, -4: 2, -7: 2, 3: 0, 4: 1, 5: 2, math.MaxInt: 1, math.MinInt: 1, math.MinInt + 1: 2} {
		l, e := sched.Choose(p, []int{0, 0, choice}, steps(9))
		picked(t, "three ready", l, e, gos(0, 0, want))
	}
}

// 9.3: it ends with the choices, with the steps, or where nothing is ready.
func TestChooseEnds(t *testing.T) {
	choose := func(what, text string, choices []int, b api.Budget, want []api.Pick) {
		t.Helper()
		l, e := sched.Choose(parsed(t, text), choices, b)
		picked(t, what, l, e, want)
	}
	choose("no choices", ring, nil, steps(9), nil)
	choose("no choices", ring, []int{}, steps(0), nil)
	choose("choices end", ring, []int{3, 1, -4}, steps(9), turns(3))
	choose("steps end", ring, []int{3, 1, -4}, steps(2), turns(2))
	choose("no steps", ring, []int{3}, steps(0), nil)
	choose("nothing is ready", pair, []int{0, 1, 0, 0, 0, 0}, steps(9), gos(0, 1, 0, 0))
	choose("a deadlock", stuck, []int{7, 7, 7}, steps(9), turns(1))
	choose("the most", ring, make([]int, api.MaxSteps), steps(api.MaxSteps), turns(api.MaxSteps))
	choose("no fuel", "scarab\nfunc 0 1\nconst r0 1\nyield\nend", []int{0}, api.Budget{Steps: 9}, nil)
}

// 9.3: of a select each alternative is one of those that are chosen among.
func TestChooseSelect(t *testing.T) {
	p := parsed(t, choice)
	for n, want := range map[int]int{0: 0, 1: 1, 2: 0, -1: 1} {
		l, e := sched.Choose(p, []int{9, 9, n}, steps(9))
		picked(t, "both cases", l, e, []api.Pick{{}, {}, {Alt: want}})
	}
	empty := parsed(t, "scarab\nchan 1\nfunc 0 0\nchoose @1\nonrecv c0 _ @1\nselect s0\nend")
	l, e := sched.Choose(empty, []int{8}, steps(9))
	picked(t, "the else", l, e, []api.Pick{{Alt: 1}})
}

// 9.3, 9.5: of sampled programs each choice takes the pick of that place among those that are ready, and it goes on as
// long as it may.
func TestChooseSteps(t *testing.T) {
	for seed := range uint64(300) {
		p, b := sample.Small(seed), api.Budget{Steps: int(seed % 25), Fuel: 20}
		choices := sample.Choices(seed, int(seed%31))
		l, e := sched.Choose(p, choices, b)
		if e != api.OK {
			t.Fatal(e)
		}
		s, _ := state.Start(p, b.Fuel)
		for n := 0; ; n++ {
			ready, _ := step.Ready(p, s)
			if n == len(choices) || n == b.Steps || len(ready) == 0 {
				if len(l) != n {
					t.Errorf("seed %d: %d picks, not %d", seed, len(l), n)
				}
				break
			}
			// the place is the one from which the choice is a multiple of their number away.
			place := 0
			for (choices[n]%len(ready)-place)%len(ready) != 0 {
				place++
			}
			if n >= len(l) || l[n] != ready[place] {
				t.Fatalf("seed %d: %v, and at %d not %v", seed, l, n, ready[place])
			}
			s, _, _ = step.Do(p, s, ready[place], b.Fuel)
		}
	}
}

// 9.3: in turn, going round; those that are not ready are left out, and so are alternatives but the first.
func TestRobin(t *testing.T) {
	robin := func(what, text string, b api.Budget, want []api.Pick) {
		t.Helper()
		l, e := sched.Robin(parsed(t, text), b)
		picked(t, what, l, e, want)
	}
	robin("one", lone, steps(9), turns(1))
	robin("no steps", lone, steps(0), nil)
	robin("nothing to do", "scarab\nfunc 0 0\nend", steps(9), nil)
	robin("alone for ever", ring, steps(5), turns(5))
	robin("the most", ring, steps(api.MaxSteps), turns(api.MaxSteps))
	robin("two", pair, steps(9), gos(0, 1, 0, 0))
	robin("two, cut", pair, steps(3), gos(0, 1, 0))
	robin("new ones have their turn behind those ahead", crowd, steps(12), gos(0, 1, 0, 1, 2, 0, 1, 2, 3, 1, 2, 3))
	robin("a deadlock", stuck, steps(9), turns(1))
	robin("the first case, then the second, then the else", choice, steps(6), []api.Pick{{}, {}, {}, {Alt: 1}, {Alt: 2}, {Alt: 2}})
	robin("the second case", "scarab\nchan 1\nchan 1\nfunc 0 1\nchoose _\nonrecv c0 _ @2\nonrecv c1 _ @2\nsend c1 r0\nselect s0\nend", steps(9), []api.Pick{{}, {Alt: 1}})
	robin("main waits for its turn", "scarab\natomic 0\nfunc 0 2\nconst r1 1\nspawn _ f1 r0\nawait v0 r1\nyield\nend\nfunc 0 1\nconst r0 1\nyield\nyield\nstore v0 r0\nyield\nend",
		steps(20), gos(0, 1, 1, 1, 0, 1, 0))
	robin("no fuel", "scarab\nfunc 0 1\nconst r0 1\nyield\nend", api.Budget{Steps: 9}, nil)
}

// 9.3: the first one to be taken is the least one that is ready, of main's alternatives the first.
func TestRobinFirst(t *testing.T) {
	l, e := sched.Robin(parsed(t, "scarab\nchan 1\nfunc 0 0\nchoose @1\nonrecv c0 _ @1\nselect s0\nend"), steps(9))
	picked(t, "the else", l, e, []api.Pick{{Alt: 1}})
}

// nextInTurn is the pick that is in turn, told by going round goroutine by goroutine.
func nextInTurn(ready []api.Pick, last int) api.Pick {
	for away := 1; ; away++ {
		for _, pick := range ready {
			if pick.Go == (last+away)%api.MaxGos {
				return pick
			}
		}
	}
}

// 9.3, 9.5: of sampled programs each pick is the one that is in turn, and it goes on as long as it may.
func TestRobinSteps(t *testing.T) {
	switches := 0
	for seed := range uint64(300) {
		p, b := sample.Small(seed), api.Budget{Steps: int(seed % 35), Fuel: 20}
		l, e := sched.Robin(p, b)
		if e != api.OK {
			t.Fatal(e)
		}
		switches += sched.Switches(l)
		s, _ := state.Start(p, b.Fuel)
		last := api.MaxGos - 1
		for n := 0; ; n++ {
			ready, _ := step.Ready(p, s)
			if n == b.Steps || len(ready) == 0 {
				if len(l) != n {
					t.Errorf("seed %d: %d picks, not %d", seed, len(l), n)
				}
				break
			}
			want := nextInTurn(ready, last)
			if n >= len(l) || l[n] != want {
				t.Fatalf("seed %d: %v, and at %d not %v", seed, l, n, want)
			}
			last = want.Go
			s, _, _ = step.Do(p, s, want, b.Fuel)
		}
	}
	if switches < 300 {
		t.Errorf("only %d switches", switches)
	}
}

// 9.4: of any picks, however many.
func TestSwitches(t *testing.T) {
	for _, x := range []struct {
		picks []api.Pick
		want  int
	}{
		{nil, 0}, {[]api.Pick{}, 0}, {gos(4), 0}, {gos(0, 0, 1, 0), 2}, {gos(0, 1, 2, 3), 3}, {gos(1, 1, 1), 0},
		{gos(-1, 9, math.MinInt, math.MinInt, math.MaxInt), 3}, {gos(0, 5), 1}, {gos(5, 0), 1},
		{[]api.Pick{{Alt: 1}, {Alt: 2}, {Go: 1, Alt: 2}}, 1},
	} {
		if n := sched.Switches(x.picks); n != x.want {
			t.Errorf("%v: %d, not %d", x.picks, n, x.want)
		}
	}
	long := make([]api.Pick, 1<<20)
	for i := range long {
		long[i].Go = i % 2
	}
	if n := sched.Switches(long); n != 1<<20-1 {
		t.Errorf("a long list: %d", n)
	}
}
