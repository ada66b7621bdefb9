package graph_test

import (
	"slices"
	"testing"

	"scarab/api"
	"scarab/graph"
	"scarab/sample"
	"scarab/state"
)

// led asks for a way.
func led(t *testing.T, what, text string, most, to int, want ...api.Pick) {
	t.Helper()
	if l, e := graph.Way(parsed(t, text), fuel, most, to); e != api.OK || !slices.Equal(l, want) {
		t.Errorf("%s: %v %v, not %v", what, l, e, want)
	}
}

// 16.2: the chapter's example, and ways that are written out.
func TestWay(t *testing.T) {
	led(t, "one yield", lone, 9, 1, gos(0)...)
	led(t, "the start", lone, 9, 0)
	led(t, "the start, on a ring", ring, 9, 0)
	for _, most := range []int{2, 9} {
		if l, e := graph.Way(parsed(t, lone), fuel, most, 2); len(l) > 0 || e != api.ErrNone {
			t.Errorf("to 2: %v %v", l, e)
		}
	}
	led(t, "both yields", pair, 9, 4, gos(0, 0, 1)...)
	led(t, "the other one's", pair, 9, 3, gos(0, 1)...)
	led(t, "the first of four edges", selects(1, 1), 9, 3, gos(0, 0, 0)...)
	led(t, "the second case", eight, 9, 3, api.Pick{}, api.Pick{}, api.Pick{Alt: 1})
	led(t, "round a ring", three, 9, 4, gos(0, 0, 0, 0)...)
	// more picks than a schedule may have
	l, e := graph.Way(parsed(t, count), fuel, api.MaxStates, api.MaxStates-1)
	if e != api.OK || !slices.Equal(l, make([]api.Pick, api.MaxStates-1)) {
		t.Errorf("counting: %d picks, %v", len(l), e)
	}
}

// 16.2: all ways of sampled programs, as the chapter words them; no number beyond.
func TestWayModel(t *testing.T) {
	told := 0
	for i, x := range tasks(80) {
		g := worked(t, x.p, x.fuel, min(x.most, 100))
		for to := range g.States {
			want := way(g, to)
			if l, e := graph.Way(x.p, x.fuel, min(x.most, 100), to); e != api.OK || !slices.Equal(l, want) {
				t.Errorf("%d: to %d: %v %v, not %v", i, to, l, e, want)
			}
			if len(want) > 3 {
				told++
			}
		}
		for _, to := range append(far, len(g.States)) {
			if l, e := graph.Way(x.p, x.fuel, min(x.most, 100), to); len(l) > 0 || e != api.ErrNone {
				t.Errorf("%d: to %d: %v %v", i, to, l, e)
			}
		}
	}
	if told < 300 {
		t.Errorf("told %d", told)
	}
}

// 16.2: each state is found by its number; one that is left out, or that no way leads to, is not.
func TestFind(t *testing.T) {
	var told struct{ out, never int }
	for i, x := range tasks(60) {
		all := worked(t, x.p, x.fuel, 120)
		most := min(x.most, 120)
		for n, s := range all.States {
			want, err := n, api.OK
			if n >= most {
				want, err = 0, api.ErrNone
				told.out++
			}
			if k, e := graph.Find(x.p, x.fuel, most, s); k != want || e != err {
				t.Errorf("%d: state %d: %d %v, not %d %v", i, n, k, e, want, err)
			}
		}
		s := sample.State(x.p, uint64(i))
		want, err := slices.Index(all.States, s), api.OK
		if want == -1 || want >= most {
			want, err = 0, api.ErrNone
			told.never++
		}
		if k, e := graph.Find(x.p, x.fuel, most, s); k != want || e != err {
			t.Errorf("%d: any state: %d %v, not %d %v", i, k, e, want, err)
		}
	}
	if min(told.out, told.never) < 40 {
		t.Errorf("told %+v", told)
	}
}

// 16.2: what is no state of the program is told as that, be it like one as it may.
func TestFindWrong(t *testing.T) {
	p := parsed(t, pair)
	g, _ := graph.Of(p, fuel, 9)
	told := 0
	for n, s := range g.States {
		for k := range 7 {
			odd := s
			switch k {
			case 0:
				odd.Count = 0
			case 1:
				odd.Vars[0] = 1
			case 2:
				odd.Owner[3] = 1
			case 3:
				odd.Chans[0].Closed = true
			case 4:
				odd.Gos[5].Regs[7] = -1
			case 5:
				odd.Gos[0].PC = 99
			case 6:
				odd = api.State{}
			}
			if state.Valid(p, odd) {
				t.Fatalf("state %d, %d: it is one", n, k)
			}
			for _, most := range []int{1, 3, 9, api.MaxStates} {
				if m, e := graph.Find(p, fuel, most, odd); m != 0 || e != api.ErrState {
					t.Errorf("state %d, %d: %d %v", n, k, m, e)
				}
				told++
			}
		}
	}
	if told < 100 {
		t.Errorf("told %d", told)
	}
}
