package graph

import (
	"iter"

	"scarab/api"
	"scarab/state"
	"scarab/step"
)

// found is a graph, and the number of each of its states.
type found struct {
	graph  api.Graph
	number map[api.State]int
}

// explore finds the states of a program, at most so many; or tells what is wrong with what is asked.
func explore(p api.Prog, fuel, most int) (found, api.Errno) {
	start, e := state.Start(p, fuel)
	if e != api.OK {
		return found{}, e
	}
	if most < 1 || most > api.MaxStates {
		return found{}, api.ErrArg
	}
	f := found{api.Graph{Complete: true}, map[api.State]int{}}
	f.add(start, most)
	for n := 0; n < len(f.graph.States); n++ {
		var edges []api.Edge
		for pick, s := range ahead(p, f.graph.States[n], fuel) {
			edges = append(edges, api.Edge{Pick: pick, To: f.add(s, most)})
		}
		f.graph.Edges = append(f.graph.Edges, edges)
	}
	return f, api.OK
}

// ahead hands out the picks that are ready in a state, each with the state that it leads to.
func ahead(p api.Prog, s api.State, fuel int) iter.Seq2[api.Pick, api.State] {
	return func(yield func(api.Pick, api.State) bool) {
		ready, _ := step.Ready(p, s)
		for _, pick := range ready {
			next, _, _ := step.Do(p, s, pick, fuel)
			if !yield(pick, next) {
				return
			}
		}
	}
}

// add is the number of a state, which gets the next one if it is not found yet; -1, if it is left out.
func (f *found) add(s api.State, most int) int {
	n, there := f.number[s]
	switch {
	case there:
		return n
	case len(f.graph.States) == most:
		f.graph.Complete = false
		return -1
	}
	n = len(f.graph.States)
	f.number[s] = n
	f.graph.States = append(f.graph.States, s)
	return n
}

// firsts are, of each state, the first edge that leads to it, as one that leads back. (That of 0 says nothing.)
func firsts(edges [][]api.Edge) []api.Edge {
	back := make([]api.Edge, len(edges))
	next := 1 // a state is numbered as its first edge is found: these come in the order of the numbers
	for n, l := range edges {
		for _, edge := range l {
			if edge.To == next {
				back[next] = api.Edge{Pick: edge.Pick, To: n}
				next++
			}
		}
	}
	return back
}
