package graph

import (
	"math"
	"slices"

	"scarab/api"
)

// closed says that a state's group is told.
const closed = math.MaxInt

// seeker finds the groups of states that lead to each other (Tarjan's way).
type seeker struct {
	edges  [][]api.Edge
	count  int
	low    []int // the least number, in the order of going, to which a state is known to lead back; 0: not gone to yet
	open   []int // the states whose group is not told yet, in the order of going
	groups [][]int
}

// groups are the states by groups: two are in one just if each leads to the other. A group comes behind all others to
// which it leads.
func groups(edges [][]api.Edge) [][]int {
	x := seeker{edges: edges, low: make([]int, len(edges))}
	// edges lead from state 0 to all others.
	if len(edges) > 0 {
		x.visit(0)
	}
	return x.groups
}

// visit goes to a state, and from there on.
func (x *seeker) visit(n int) {
	x.count++
	mine, place := x.count, len(x.open)
	x.low[n] = mine
	x.open = append(x.open, n)
	for _, edge := range x.edges[n] {
		if edge.To == -1 {
			continue
		}
		if x.low[edge.To] == 0 {
			x.visit(edge.To)
		}
		x.low[n] = min(x.low[n], x.low[edge.To])
	}
	if x.low[n] == mine {
		x.close(place)
	}
}

// close tells the open states from a place on as a group.
func (x *seeker) close(from int) {
	group := slices.Clone(x.open[from:])
	for _, n := range group {
		x.low[n] = closed
	}
	x.open = x.open[:from]
	x.groups = append(x.groups, group)
}

// ring tells whether the states of a group are on a ring.
func ring(edges [][]api.Edge, group []int) bool {
	return len(group) > 1 || slices.ContainsFunc(edges[group[0]], func(edge api.Edge) bool {
		return edge.To == group[0]
	})
}

// folded works a number out for the state 0, from the stuck ones on, which have one that is given: more is handed what a
// state has so far, from 0 on, and what one has to which an edge of it leads. It tells too whether there is such a number:
// of a graph that is complete and has no ring.
func folded(p api.Prog, fuel, most, stuck int, more func(sofar, behind int) int) (int, bool, api.Errno) {
	f, e := explore(p, fuel, most)
	if !f.graph.Complete {
		return 0, false, e
	}
	edges := f.graph.Edges
	numbers := make([]int, len(edges))
	for _, group := range groups(edges) {
		if ring(edges, group) {
			return 0, false, api.OK
		}
		n := group[0]
		if len(edges[n]) == 0 {
			numbers[n] = stuck
		}
		for _, edge := range edges[n] {
			numbers[n] = more(numbers[n], numbers[edge.To])
		}
	}
	return numbers[0], true, api.OK
}
