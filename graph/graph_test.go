package graph_test

import (
	"slices"
	"testing"

	"scarab/api"
	"scarab/graph"
)

// edges asks for a graph's edges, and whether it is complete.
func edges(t *testing.T, what, text string, fuel, most int, complete bool, want ...[]api.Edge) api.Graph {
	t.Helper()
	g, e := graph.Of(parsed(t, text), fuel, most)
	if e != api.OK || g.Complete != complete || len(g.States) != len(want) || !slices.EqualFunc(g.Edges, want, slices.Equal) {
		t.Errorf("%s: %d states, %v %v %v, not %v %v", what, len(g.States), g.Edges, g.Complete, e, want, complete)
	}
	return g
}

// 16.1: the chapter's examples, as graphs.
func TestExamples(t *testing.T) {
	g := edges(t, "one yield", lone, fuel, 2, true, []api.Edge{edge(0, 1)}, nil)
	if g.States[0].Gos[0].Status != api.GoLive || g.States[1].Gos[0].Status != api.GoDone {
		t.Errorf("states: %v", g.States)
	}
	edges(t, "for ever", ring, fuel, 1, true, []api.Edge{edge(0, 0)})
	edges(t, "two that yield", pair, fuel, 9, true, []api.Edge{edge(0, 1)}, []api.Edge{edge(0, 2), edge(1, 3)}, []api.Edge{edge(1, 4)}, []api.Edge{edge(0, 4)}, nil)
}

// 16.1: no step, no fuel, what is left out, alternatives in their order, edges to one state.
func TestOf(t *testing.T) {
	edges(t, "an end", none, fuel, 1, true, nil)
	if g := edges(t, "spun", none, 0, 1, true, nil); g.States[0].Gos[0].Status != api.GoSpun {
		t.Errorf("not spun: %v", g.States[0])
	}
	edges(t, "one left out", lone, fuel, 1, false, []api.Edge{edge(0, -1)})
	edges(t, "four of five", pair, fuel, 4, false, []api.Edge{edge(0, 1)}, []api.Edge{edge(0, 2), edge(1, 3)}, []api.Edge{edge(1, -1)}, []api.Edge{edge(0, -1)})
	edges(t, "three of five", pair, fuel, 3, false, []api.Edge{edge(0, 1)}, []api.Edge{edge(0, 2), edge(1, -1)}, []api.Edge{edge(1, -1)})
	edges(t, "five of five", pair, fuel, 5, true, []api.Edge{edge(0, 1)}, []api.Edge{edge(0, 2), edge(1, 3)}, []api.Edge{edge(1, 4)}, []api.Edge{edge(0, 4)}, nil)
	alt := func(n, to int) api.Edge { return api.Edge{Pick: api.Pick{Alt: n}, To: to} }
	edges(t, "alternatives", selects(1, 2), fuel, 9, true, []api.Edge{edge(0, 1)}, []api.Edge{alt(0, 2), alt(1, 2), alt(2, 2), alt(3, 2)}, []api.Edge{alt(0, 3), alt(1, 3)}, nil)
	edges(t, "a ring behind two", three, fuel, 9, true, []api.Edge{edge(0, 1)}, []api.Edge{edge(0, 2)}, []api.Edge{edge(0, 3)}, []api.Edge{edge(0, 4)}, []api.Edge{edge(0, 2)})
	edges(t, "two rings", eight, fuel, 9, true, []api.Edge{edge(0, 1)}, []api.Edge{edge(0, 2)}, []api.Edge{alt(0, 2), alt(1, 3)}, []api.Edge{edge(0, 4)}, []api.Edge{edge(0, 4)})
	if g, e := graph.Of(parsed(t, count), fuel, api.MaxStates); e != api.OK || g.Complete || len(g.States) != api.MaxStates || g.States[api.MaxStates-1].Vars[0] != api.MaxStates-1 || g.Edges[api.MaxStates-1][0].To != -1 {
		t.Errorf("counting: %d states, complete %v, %v", len(g.States), g.Complete, e)
	}
}

// 16.1: the fuel is that of the start and of each step.
func TestFuel(t *testing.T) {
	text := "scarab\nfunc 0 1\nconst r0 1\nconst r0 2\nyield\nconst r0 3\nconst r0 4\nconst r0 5\nyield\nend"
	for fuel, want := range []int{1, 1, 2, 3, 3} {
		g, e := graph.Of(parsed(t, text), fuel, 9)
		last := g.States[len(g.States)-1].Gos[0].Status
		if e != api.OK || !g.Complete || len(g.States) != want || (last == api.GoSpun) != (fuel < 3) {
			t.Errorf("fuel %d: %v %v", fuel, g, e)
		}
	}
}

// numbers asks for the states that are stuck and those on rings, and whether the graph is complete.
func numbers(t *testing.T, what, text string, most int, complete bool, stuck, rings []int) {
	t.Helper()
	l, is, e := graph.Stuck(parsed(t, text), fuel, most)
	if e != api.OK || is != complete || !slices.Equal(l, stuck) {
		t.Errorf("%s: Stuck %v %v %v", what, l, is, e)
	}
	l, is, e = graph.Rings(parsed(t, text), fuel, most)
	if e != api.OK || is != complete || !slices.Equal(l, rings) {
		t.Errorf("%s: Rings %v %v %v", what, l, is, e)
	}
}

// 16.1: the chapter's examples, and graphs that are written out, complete or not: what is left out is on no ring, and a
// state whose edges lead there alone is not stuck.
func TestStuckAndRings(t *testing.T) {
	numbers(t, "one yield", lone, 9, true, []int{1}, nil)
	numbers(t, "one yield, one state", lone, 1, false, nil, nil)
	numbers(t, "for ever", ring, 9, true, nil, []int{0})
	numbers(t, "two that yield", pair, 9, true, []int{4}, nil)
	numbers(t, "two that yield, one left out", pair, 4, false, nil, nil)
	numbers(t, "an end", none, 1, true, []int{0}, nil)
	numbers(t, "a deadlock", stuck, 9, true, []int{1}, nil)
	numbers(t, "a ring of three", three, 9, true, nil, []int{2, 3, 4})
	numbers(t, "a ring of three, one left out", three, 4, false, nil, nil)
	numbers(t, "two rings", eight, 9, true, nil, []int{2, 4})
	numbers(t, "two rings, one left out", eight, 4, false, nil, []int{2})
	numbers(t, "counting", count, api.MaxStates, false, nil, nil)
	// states between rings: one that goes round by two steps, a step, and one that goes round by one
	between := `scarab
		chan 1
		func 0 0
		choose _
		onrecv c0 _ @1
		onrecv c0 _ @3
		close c0
		yield
		select s0
		yield
		yield
		yield
		jump @5`
	numbers(t, "between rings", between, 9, true, nil, []int{1, 2, 5})
	p := parsed(t, locks)
	l, is, e := graph.Stuck(p, fuel, 99)
	g, _ := graph.Of(p, fuel, 99)
	if len(l) != 2 || !is || e != api.OK || g.States[l[0]].Gos[1].Status != api.GoLive || g.States[l[1]].Gos[1].Status != api.GoDone {
		t.Errorf("two locks: %v %v %v", l, is, e)
	}
}

// 16.1: the graph, what is stuck and what is on rings, as the chapter words it.
func TestModel(t *testing.T) {
	var told struct{ complete, part, stuck, rings, some, parts int }
	for i, x := range tasks(400) {
		want := worked(t, x.p, x.fuel, x.most)
		g, e := graph.Of(x.p, x.fuel, x.most)
		if e != api.OK || !same(g, want) {
			t.Errorf("%d: %v %v, not %v", i, g, e, want)
		}
		var stuck []int
		for n, s := range want.States {
			if len(open(t, x.p, s)) == 0 {
				stuck = append(stuck, n)
			}
		}
		l, is, e := graph.Stuck(x.p, x.fuel, x.most)
		if e != api.OK || is != want.Complete || !slices.Equal(l, stuck) {
			t.Errorf("%d: Stuck %v %v %v, not %v %v", i, l, is, e, stuck, want.Complete)
		}
		rings := onRings(want)
		l, is, e = graph.Rings(x.p, x.fuel, x.most)
		if e != api.OK || is != want.Complete || !slices.Equal(l, rings) {
			t.Errorf("%d: Rings %v %v %v, not %v %v", i, l, is, e, rings, want.Complete)
		}
		tally(&told.complete, want.Complete && len(g.States) > 5)
		tally(&told.part, !want.Complete)
		tally(&told.stuck, len(stuck) > 1)
		tally(&told.rings, len(rings) > 0)
		tally(&told.some, len(rings) > 0 && len(rings) < len(g.States))
		tally(&told.parts, len(rings) > 1 && !want.Complete)
	}
	if min(told.complete, told.part, told.stuck, told.rings, told.some) < 20 || told.parts < 4 {
		t.Errorf("told %+v", told)
	}
}

// tally counts what is.
func tally(n *int, is bool) {
	if is {
		*n++
	}
}
