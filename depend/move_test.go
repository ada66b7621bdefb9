package depend_test

import (
	"math"
	"slices"
	"testing"

	"scarab/api"
	"scarab/depend"
	"scarab/sched"
)

// Programs whose main spawns two goroutines that yield twice, that store to one variable, to two.
const (
	yields = "scarab\nfunc 0 0\nspawn _ f1 r0\nspawn _ f1 r0\nend\nfunc 0 0\nyield\nyield\nend"
	stores = "scarab\nvar 0\nfunc 0 0\nspawn _ f1 r0\nspawn _ f1 r0\nend\nfunc 0 1\nstore v0 r0\nend"
	apart  = "scarab\nvar 0\nvar 0\nfunc 0 0\nspawn _ f1 r0\nspawn _ f2 r0\nend\nfunc 0 1\nstore v0 r0\nend\nfunc 0 1\nstore v1 r0\nend"
	loads  = "scarab\nvar 0\nfunc 0 0\nspawn _ f1 r0\nspawn _ f1 r0\nend\nfunc 0 1\nload r0 v0\nend"
	ring   = "scarab\nfunc 0 0\nyield\njump @0"
)

// swapped asks what Swap tells: picks, or nothing and false.
func swapped(t *testing.T, text string, picks []api.Pick, i int, want []api.Pick) {
	t.Helper()
	l, ok, e := depend.Swap(parsed(t, text), picks, i, enough)
	if e != api.OK || ok != (want != nil) || !slices.Equal(l, want) {
		t.Errorf("Swap of %v at %d: %v %v %v, not %v", picks, i, l, ok, e, want)
	}
}

// sunk asks what Sink tells.
func sunk(t *testing.T, text string, picks []api.Pick, i int, want []api.Pick, place int) {
	t.Helper()
	l, at, e := depend.Sink(parsed(t, text), picks, i, enough)
	if e != api.OK || at != place || !slices.Equal(l, want) {
		t.Errorf("Sink of %v at %d: %v %d %v, not %v %d", picks, i, l, at, e, want, place)
	}
}

// 10.3: the chapter's example 2, and others that were written out.
func TestSwap(t *testing.T) {
	swapped(t, yields, gos(0, 0, 1, 2), 2, gos(0, 0, 2, 1))
	swapped(t, yields, gos(0, 0, 1, 2), 1, gos(0, 1, 0, 2))
	swapped(t, yields, gos(0, 1, 0, 2), 1, gos(0, 0, 1, 2))
	swapped(t, yields, gos(0, 1, 0, 2), 2, nil)
	swapped(t, yields, gos(0, 0, 1, 1), 2, nil)
	swapped(t, yields, gos(0, 0, 1, 2, 1, 2), 3, gos(0, 0, 1, 1, 2, 2))
	swapped(t, yields, gos(0, 0), 0, nil)
	swapped(t, stores, gos(0, 0, 1, 2), 2, nil)
	swapped(t, apart, gos(0, 0, 1, 2), 2, gos(0, 0, 2, 1))
	swapped(t, loads, gos(0, 0, 1, 2), 2, gos(0, 0, 2, 1))
	swapped(t, "scarab\nfunc 0 0\nspawn _ f1 r0\nyield\nend\nfunc 0 0\nyield\nend", gos(0, 0, 1), 1, gos(0, 1, 0))
}

// 10.3: a select's alternatives go with their picks.
func TestSwapAlternatives(t *testing.T) {
	text := "scarab\nchan 1\nchan 1\nfunc 0 1\nchoose _\nonrecv c0 r0 @3\nonsend c1 r0 @3\nspawn _ f1 r0\nyield\nselect s0\nend\nfunc 0 0\nyield\nend"
	swapped(t, text, []api.Pick{{}, {}, {Alt: 1}, {Go: 1}}, 2, []api.Pick{{}, {}, {Go: 1}, {Alt: 1}})
	sunk(t, text, []api.Pick{{}, {}, {Alt: 1}, {Go: 1}}, 3, []api.Pick{{}, {Go: 1}, {}, {Alt: 1}}, 1)
}

// 10.4: the chapter's example 2, and others that were written out.
func TestSink(t *testing.T) {
	sunk(t, yields, gos(0, 0, 1, 2), 3, gos(0, 0, 2, 1), 2)
	sunk(t, yields, gos(0, 0, 1, 1, 2), 4, gos(0, 0, 2, 1, 1), 2)
	sunk(t, yields, gos(0, 0, 1, 2, 1), 4, gos(0, 0, 1, 1, 2), 3)
	sunk(t, yields, gos(0, 0, 1, 1), 2, gos(0, 1, 0, 1), 1)
	sunk(t, yields, gos(0, 0, 1, 1), 3, gos(0, 0, 1, 1), 3)
	sunk(t, yields, gos(0, 0, 1), 0, gos(0, 0, 1), 0)
	sunk(t, yields, gos(0), 0, gos(0), 0)
	sunk(t, stores, gos(0, 0, 1, 2), 3, gos(0, 0, 1, 2), 3)
	sunk(t, apart, gos(0, 0, 1, 2), 3, gos(0, 0, 2, 1), 2)
	sunk(t, apart, gos(0, 0, 2, 1), 3, gos(0, 1, 0, 2), 1)
	sunk(t, loads, gos(0, 0, 1, 2), 3, gos(0, 0, 2, 1), 2)
}

// 10.4: what stood between moves on by one, and keeps its order.
func TestSinkFar(t *testing.T) {
	text := "scarab\nfunc 0 0\nspawn _ f1 r0\nyield\nyield\nyield\nend\nfunc 0 0\nyield\nend"
	sunk(t, text, gos(0, 0, 0, 0, 1), 4, gos(0, 1, 0, 0, 0), 1)
	sunk(t, text, gos(0, 0, 0, 1, 0), 3, gos(0, 1, 0, 0, 0), 1)
}

// errors asks that Swap and Sink tell errors, and nothing else.
func errors(t *testing.T, what string, p api.Prog, picks []api.Pick, i int, b api.Budget, swap, sink api.Errno) {
	t.Helper()
	l, ok, e := depend.Swap(p, picks, i, b)
	if e != swap || swap != api.OK && (ok || len(l) > 0) {
		t.Errorf("Swap, %s, %d: %v %v %v, not %v", what, i, l, ok, e, swap)
	}
	l, at, e := depend.Sink(p, picks, i, b)
	if e != sink || sink != api.OK && (at != 0 || len(l) > 0) {
		t.Errorf("Sink, %s, %d: %v %d %v, not %v", what, i, l, at, e, sink)
	}
}

// 10.3, 10.4: the errors, in their order: a program, too many picks, a place, a budget, what a run tells.
func TestMoveErrors(t *testing.T) {
	p := parsed(t, ring)
	falls := api.Prog{Funcs: []api.Func{{Code: []api.Instr{{Op: api.OpYield}}}}}
	long, bad := make([]api.Pick, api.MaxSteps+1), gos(0, 7, 0)
	for _, i := range append([]int{0, 1, 2, 3, 257}, far...) {
		// of three picks: what both tell where their place is right.
		at := func(what string, p api.Prog, picks []api.Pick, b api.Budget, e api.Errno) {
			t.Helper()
			swap, sink := e, e
			if i < 0 || i > 1 {
				swap = api.ErrArg
			}
			if i < 0 || i > 2 {
				sink = api.ErrArg
			}
			errors(t, what, p, picks, i, b, swap, sink)
		}
		for _, b := range wrongBudgets() {
			errors(t, "no program", api.Prog{}, bad, i, b, api.ErrProg, api.ErrProg)
			errors(t, "no program, long", falls, long, i, b, api.ErrProg, api.ErrProg)
			errors(t, "long", p, long, i, b, api.ErrLong, api.ErrLong)
			errors(t, "no picks", p, nil, i, b, api.ErrArg, api.ErrArg)
			at("a budget", p, bad, b, api.ErrBudget)
		}
		errors(t, "no program", falls, gos(0, 0, 0), i, enough, api.ErrProg, api.ErrProg)
		errors(t, "long", p, long, i, enough, api.ErrLong, api.ErrLong)
		errors(t, "no picks", p, []api.Pick{}, i, enough, api.ErrArg, api.ErrArg)
		at("more than the steps", p, bad, api.Budget{Steps: 2, Fuel: 9}, api.ErrLong)
		at("not ready", p, bad, enough, api.ErrPick)
		at("right", p, gos(0, 0, 0), enough, api.OK)
	}
	errors(t, "one pick", p, gos(0), 0, enough, api.ErrArg, api.OK)
	most := api.Budget{Steps: api.MaxSteps, Fuel: 9}
	errors(t, "the most", p, make([]api.Pick, api.MaxSteps), 254, most, api.OK, api.OK)
	errors(t, "the most", p, make([]api.Pick, api.MaxSteps), 255, most, api.ErrArg, api.OK)
	errors(t, "the most", p, make([]api.Pick, api.MaxSteps), 256, most, api.ErrArg, api.ErrArg)
}

// wrongBudgets are such as are not right, each by one of its numbers.
func wrongBudgets() []api.Budget {
	l := []api.Budget{{Steps: api.MaxSteps + 1}, {Steps: 9, Fuel: api.MaxFuel + 1}, {Steps: 9, Runs: api.MaxRuns + 1}}
	for _, n := range []int{math.MinInt, -1, math.MaxInt} {
		l = append(l, api.Budget{Steps: n}, api.Budget{Steps: 9, Fuel: n}, api.Budget{Steps: 9, Runs: n})
	}
	return l
}

// 10.3, 10.4: a run of as many picks as there are steps, behind which something is ready, is no fault.
func TestMoveCut(t *testing.T) {
	p, b := parsed(t, yields), api.Budget{Steps: 4, Fuel: 9}
	if l, ok, e := depend.Swap(p, gos(0, 0, 1, 2), 2, b); e != api.OK || !ok || !slices.Equal(l, gos(0, 0, 2, 1)) {
		t.Errorf("Swap: %v %v %v", l, ok, e)
	}
	if l, at, e := depend.Sink(p, gos(0, 0, 1, 2), 3, b); e != api.OK || at != 2 || !slices.Equal(l, gos(0, 0, 2, 1)) {
		t.Errorf("Sink: %v %d %v", l, at, e)
	}
}

// 10.3, 10.6: in sampled runs just independent neighbours are changed about; that is legal, leads to the same state, and
// has the same events in the other order.
func TestSwapRuns(t *testing.T) {
	yes, no := 0, 0
	for n, x := range plays(t, 250) {
		was, _, _ := sched.Run(x.p, x.picks, x.b)
		for i := 0; i+1 < len(x.picks); i++ {
			l, ok, e := depend.Swap(x.p, x.picks, i, x.b)
			if e != api.OK || ok == clashing(touched(x.events[i]), touched(x.events[i+1])) {
				t.Fatalf("%d, at %d: %v %v", n, i, ok, e)
			}
			if !ok {
				no++
				if len(l) > 0 {
					t.Errorf("%d, at %d: %v beside a false", n, i, l)
				}
				continue
			}
			yes++
			picks, events := slices.Clone(x.picks), slices.Clone(x.events)
			picks[i], picks[i+1] = picks[i+1], picks[i]
			events[i], events[i+1] = events[i+1], events[i]
			is, e, _ := sched.Run(x.p, l, x.b)
			if e != api.OK || !slices.Equal(l, picks) || !slices.Equal(is.Events, events) || is.End != was.End || is.Cut != was.Cut {
				t.Errorf("%d, at %d: %v, %v", n, i, l, e)
			}
		}
	}
	if yes < 300 || no < 1000 {
		t.Errorf("only %d independent ones, %d others", yes, no)
	}
}

// sinking is what Sink tells, by Swap alone: swap by swap, each of them looked at in the run that the one ahead led to.
func sinking(t *testing.T, x play, i int) ([]api.Pick, int) {
	l := slices.Clone(x.picks)
	for ; i > 0; i-- {
		next, ok, e := depend.Swap(x.p, l, i-1, x.b)
		if e != api.OK {
			t.Fatal(e)
		}
		if !ok {
			break
		}
		l = next
	}
	return l, i
}

// 10.4, 10.6: in sampled runs a pick sinks as far as it can be swapped; that is legal, leads to the same state, and has
// the same events.
func TestSinkRuns(t *testing.T) {
	moved := 0
	for n, x := range plays(t, 250) {
		was, _, _ := sched.Run(x.p, x.picks, x.b)
		for i := range x.picks {
			l, at, e := depend.Sink(x.p, x.picks, i, x.b)
			want, place := sinking(t, x, i)
			if e != api.OK || at != place || !slices.Equal(l, want) {
				t.Fatalf("%d, at %d: %v %d %v, not %v %d", n, i, l, at, e, want, place)
			}
			if at < i-1 {
				moved++
			}
			events := slices.Delete(slices.Clone(x.events), i, i+1)
			events = slices.Insert(events, at, x.events[i])
			is, e, _ := sched.Run(x.p, l, x.b)
			if e != api.OK || !slices.Equal(is.Events, events) || is.End != was.End {
				t.Errorf("%d, at %d: %v, %v", n, i, l, e)
			}
		}
	}
	if moved < 80 {
		t.Errorf("only %d moved far", moved)
	}
}

// 10.7: in sampled runs two independent neighbours are both ready ahead of both.
func TestBothReady(t *testing.T) {
	pairs := 0
	for n, x := range plays(t, 250) {
		for i := 0; i+1 < len(x.picks); i++ {
			if depend.Dependent(x.events[i], x.events[i+1]) {
				continue
			}
			pairs++
			if x.picks[i].Go == x.picks[i+1].Go {
				t.Errorf("%d, at %d: of one goroutine", n, i)
			}
			for _, pick := range x.picks[i : i+2] {
				l := append(slices.Clone(x.picks[:i]), pick)
				if k, e := sched.Legal(x.p, l, x.b); k != i+1 || e != api.OK {
					t.Errorf("%d, at %d: %v is not ready", n, i, pick)
				}
			}
		}
	}
	if pairs < 300 {
		t.Errorf("only %d pairs", pairs)
	}
}
