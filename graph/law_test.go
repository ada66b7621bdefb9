package graph_test

import (
	"slices"
	"testing"

	"scarab/api"
	"scarab/graph"
	"scarab/sample"
	"scarab/sched"
	"scarab/state"
	"scarab/tree"
)

// 16.4: each state is one of the program, no two are the same, edges lead where their picks do, and each state but 0 has
// one from a lesser number.
func TestGraphLaws(t *testing.T) {
	for i, x := range tasks(200) {
		g, e := graph.Of(x.p, x.fuel, x.most)
		if e != api.OK || len(g.States) > x.most || len(g.Edges) != len(g.States) {
			t.Fatalf("%d: %d states, %d lists of edges, %v", i, len(g.States), len(g.Edges), e)
		}
		if n, _ := state.Distinct(g.States); n != len(g.States) {
			t.Errorf("%d: %d of %d states", i, n, len(g.States))
		}
		lesser := make([]int, len(g.States))
		for n, s := range g.States {
			if !state.Valid(x.p, s) {
				t.Errorf("%d: state %d is none", i, n)
			}
			for _, edge := range g.Edges[n] {
				next := done(t, x.p, s, edge.Pick, x.fuel)
				switch {
				case edge.To == -1 && (g.Complete || slices.Contains(g.States, next)), edge.To >= 0 && g.States[edge.To] != next:
					t.Errorf("%d: %d leads not to %d by %v", i, n, edge.To, edge.Pick)
				case edge.To > n:
					lesser[edge.To]++
				}
			}
		}
		if k := slices.Index(lesser[1:], 0); k != -1 {
			t.Errorf("%d: nothing leads to %d", i, k+1)
		}
	}
}

// 16.4: with more states they go on where they ended.
func TestMore(t *testing.T) {
	told := 0
	for i, x := range tasks(150) {
		all, _ := graph.Of(x.p, x.fuel, 80)
		for most := 1; most < 80; most += 1 + most/4 {
			g, _ := graph.Of(x.p, x.fuel, most)
			if !slices.Equal(g.States, all.States[:min(most, len(all.States))]) || g.Complete != (all.Complete && most >= len(all.States)) {
				t.Errorf("%d: with %d states %v, complete %v", i, most, g.States, g.Complete)
			}
			for n := range g.Edges {
				for k, edge := range g.Edges[n] {
					if more := all.Edges[n][k]; edge.Pick != more.Pick || edge.To != more.To && (edge.To != -1 || more.To != -1 && more.To < most) {
						t.Errorf("%d: with %d states %v, not %v", i, most, edge, more)
					}
				}
			}
			tally(&told, !g.Complete)
		}
	}
	if told < 200 {
		t.Errorf("told %d", told)
	}
}

// 16.5: legal schedules lead along edges to the last states of their runs.
func TestSchedules(t *testing.T) {
	told := 0
	for i, x := range tasks(200) {
		g, _ := graph.Of(x.p, x.fuel, x.most)
		if !g.Complete {
			continue
		}
		b := api.Budget{Steps: 60, Fuel: x.fuel}
		for seed := range uint64(10) {
			picks, _ := sched.Choose(x.p, sample.Choices(seed, int(seed)*6), b)
			run, e, _ := sched.Run(x.p, picks, b)
			n := 0
			for _, pick := range picks {
				k := slices.IndexFunc(g.Edges[n], func(edge api.Edge) bool { return edge.Pick == pick })
				if k == -1 {
					t.Fatalf("%d: %v has no edge from %d", i, pick, n)
				}
				n = g.Edges[n][k].To
			}
			if e != api.OK || g.States[n] != run.End {
				t.Errorf("%d: %v leads to %d, not to %v", i, picks, n, run.End)
			}
			if k, e := graph.Find(x.p, x.fuel, x.most, run.End); k != n || e != api.OK {
				t.Errorf("%d: found as %d, not as %d: %v", i, k, n, e)
			}
			tally(&told, len(picks) > 3)
		}
	}
	if told < 300 {
		t.Errorf("told %d", told)
	}
}

// distances are, of each state of a graph, how many edges lead to it at least.
func distances(g api.Graph) []int {
	far := len(g.States)
	l := slices.Repeat([]int{far}, len(g.States))
	l[0] = 0
	for changed := true; changed; {
		changed = false
		for n, edges := range g.Edges {
			for _, edge := range edges {
				if edge.To >= 0 && l[edge.To] > l[n]+1 {
					l[edge.To] = l[n] + 1
					changed = true
				}
			}
		}
	}
	return l
}

// 16.5: a way's picks are legal and lead to the state, and no fewer do.
func TestWaysLaws(t *testing.T) {
	told := 0
	for i, x := range tasks(80) {
		most := min(x.most, 80)
		g, _ := graph.Of(x.p, x.fuel, most)
		fewest := distances(g)
		for to, s := range g.States {
			picks, e := graph.Way(x.p, x.fuel, most, to)
			if e != api.OK || len(picks) != fewest[to] {
				t.Errorf("%d: to %d %v %v, not %d picks", i, to, picks, e, fewest[to])
			}
			run, e, at := sched.Run(x.p, picks, api.Budget{Steps: api.MaxSteps, Fuel: x.fuel})
			if e != api.OK || run.End != s {
				t.Errorf("%d: to %d: %v at %d of %v", i, to, e, at, picks)
			}
			tally(&told, len(picks) > 2)
		}
	}
	if told < 300 {
		t.Errorf("told %d", told)
	}
}

// 16.6, P8: where tree is complete, it has as many runs as Paths says, the longest with Depth picks, and just the states
// that are stuck at their ends.
func TestTree(t *testing.T) {
	var told struct{ runs, ends int }
	for i, x := range tasks(300) {
		b := api.Budget{Steps: 25, Fuel: x.fuel, Runs: 500}
		runs, e := tree.All(x.p, b)
		if e != api.OK {
			t.Fatal(e)
		}
		if !runs.Complete {
			continue
		}
		longest := 0
		for _, r := range runs.All {
			longest = max(longest, len(r.Picks))
		}
		n, is, e := graph.Paths(x.p, x.fuel, 2000)
		if n != len(runs.All) || !is || e != api.OK {
			t.Errorf("%d: Paths %d %v %v, not %d", i, n, is, e, len(runs.All))
		}
		d, is, e := graph.Depth(x.p, x.fuel, 2000)
		if d != longest || !is || e != api.OK {
			t.Errorf("%d: Depth %d %v %v, not %d", i, d, is, e, longest)
		}
		ends, _, _ := tree.Ends(x.p, b)
		stuck, _, _ := graph.Stuck(x.p, x.fuel, 2000)
		g, _ := graph.Of(x.p, x.fuel, 2000)
		for _, n := range stuck {
			if !slices.Contains(ends, g.States[n]) {
				t.Errorf("%d: state %d is no run's end", i, n)
			}
		}
		if len(ends) != len(stuck) {
			t.Errorf("%d: %d ends, %d stuck ones", i, len(ends), len(stuck))
		}
		tally(&told.runs, len(runs.All) > 3)
		tally(&told.ends, len(ends) > 1)
	}
	if min(told.runs, told.ends) < 20 {
		t.Errorf("told %+v", told)
	}
}
