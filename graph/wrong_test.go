package graph_test

import (
	"slices"
	"testing"

	"scarab/api"
	"scarab/graph"
	"scarab/prog"
	"scarab/sample"
)

// refused asks that all calls tell an error, whatever else they are given, and nothing else.
func refused(t *testing.T, what string, p api.Prog, fuel, most int, want api.Errno) {
	t.Helper()
	g, e := graph.Of(p, fuel, most)
	if len(g.States)+len(g.Edges) > 0 || g.Complete || e != want {
		t.Errorf("%s: Of %v %v, not %v", what, g, e, want)
	}
	l, is, e := graph.Stuck(p, fuel, most)
	if len(l) > 0 || is || e != want {
		t.Errorf("%s: Stuck %v %v %v, not %v", what, l, is, e, want)
	}
	l, is, e = graph.Rings(p, fuel, most)
	if len(l) > 0 || is || e != want {
		t.Errorf("%s: Rings %v %v %v, not %v", what, l, is, e, want)
	}
	n, is, e := graph.Paths(p, fuel, most)
	if n != 0 || is || e != want {
		t.Errorf("%s: Paths %v %v %v, not %v", what, n, is, e, want)
	}
	n, is, e = graph.Depth(p, fuel, most)
	if n != 0 || is || e != want {
		t.Errorf("%s: Depth %v %v %v, not %v", what, n, is, e, want)
	}
	for _, s := range []api.State{{}, {Count: 1}, {Count: 1, Gos: [api.MaxGos]api.Go{{Status: api.GoLive}}}} {
		if n, e := graph.Find(p, fuel, most, s); n != 0 || e != want {
			t.Errorf("%s: Find %v %v, not %v", what, n, e, want)
		}
	}
	for _, to := range []int{0, 1, 2, -1} {
		if l, e := graph.Way(p, fuel, most, to); len(l) > 0 || e != want {
			t.Errorf("%s: Way to %d %v %v, not %v", what, to, l, e, want)
		}
	}
}

// 16.1 to 16.3, R1: a program that is not right, then the fuel, then how many states.
func TestWrong(t *testing.T) {
	p := parsed(t, lone)
	bad := prog.Copy(p)
	bad.Funcs[0].Code[0].A = 1
	for _, n := range append(far, 0, 1, api.MaxFuel+1, api.MaxStates+1) {
		for _, p := range []api.Prog{{}, bad} {
			refused(t, "no program", p, n, 9, api.ErrProg)
			refused(t, "no program", p, 9, n, api.ErrProg)
			refused(t, "no program", p, n, n, api.ErrProg)
		}
	}
	for _, n := range append(far, api.MaxFuel+1) {
		refused(t, "no fuel", p, n, 9, api.ErrArg)
		refused(t, "no fuel", p, n, 0, api.ErrArg)
	}
	for _, n := range append(far, 0, api.MaxStates+1) {
		refused(t, "no number", p, 9, n, api.ErrArg)
	}
	for _, fuel := range []int{1, api.MaxFuel} {
		for _, most := range []int{2, api.MaxStates} {
			if g, e := graph.Of(p, fuel, most); len(g.States) != 2 || !g.Complete || e != api.OK {
				t.Errorf("fuel %d, most %d: %v %v", fuel, most, g, e)
			}
		}
	}
	if g, e := graph.Of(p, 0, 1); len(g.States) != 1 || g.Complete || e != api.OK {
		t.Errorf("the least of all: %v %v", g, e)
	}
}

// P1: calls of any programs, states and numbers end without a panic.
func TestAnything(t *testing.T) {
	for seed := range uint64(150) {
		p := sample.Prog(seed)
		if seed%4 == 0 {
			p.Funcs[0].Code[0].A = int(seed) - 100
		}
		odd := sample.Choices(seed, 9)
		s := sample.State(sample.Small(seed), seed)
		s.Count, s.Gos[0].PC, s.Chans[0].From = odd[0], odd[1], odd[2]
		for _, n := range [][2]int{{odd[3], odd[4]}, {9, odd[4]}, {odd[3], 9}, {9, 50}} {
			graph.Of(p, n[0], n[1])
			graph.Stuck(p, n[0], n[1])
			graph.Rings(p, n[0], n[1])
			graph.Find(p, n[0], n[1], s)
			graph.Way(p, n[0], n[1], odd[5])
			graph.Paths(p, n[0], n[1])
			graph.Depth(p, n[0], n[1])
		}
	}
}

// R3, R6: what is handed in stays as it is; answers are new memory, the edges of each state too, and the same each time.
func TestMemory(t *testing.T) {
	for i, x := range tasks(60) {
		before := prog.Copy(x.p)
		g, _ := graph.Of(x.p, x.fuel, x.most)
		kept, _ := graph.Of(x.p, x.fuel, x.most)
		for n := range g.Edges {
			spoil(g.Edges[n], api.Edge{To: -7})
			if !slices.EqualFunc(g.Edges[n+1:], kept.Edges[n+1:], slices.Equal) {
				t.Errorf("%d: edges share memory", i)
			}
		}
		spoil(g.States, api.State{Count: -7})
		spoil(g.Edges, nil)
		calls := func() ([]int, []int, []api.Pick) {
			stuck, _, _ := graph.Stuck(x.p, x.fuel, x.most)
			rings, _, _ := graph.Rings(x.p, x.fuel, x.most)
			way, _ := graph.Way(x.p, x.fuel, x.most, len(kept.States)-1)
			return stuck, rings, way
		}
		stuck, rings, way := calls()
		stuck1, rings1, way1 := slices.Clone(stuck), slices.Clone(rings), slices.Clone(way)
		spoil(stuck, -7)
		spoil(rings, -7)
		spoil(way, api.Pick{Go: -7})
		stuck, rings, way = calls()
		g, _ = graph.Of(x.p, x.fuel, x.most)
		if !same(g, kept) || !slices.Equal(stuck, stuck1) || !slices.Equal(rings, rings1) || !slices.Equal(way, way1) {
			t.Errorf("%d: an answer is kept, or is not the same each time", i)
		}
		if !prog.Same(x.p, before) {
			t.Errorf("%d: a call changes its arguments", i)
		}
	}
}
