package pct

import (
	"scarab/api"
	"scarab/sched"
	"scarab/step"
)

// node is what is known behind some picks, all of them first alternatives: the heads there, the nodes that come behind by
// these, and whether the picks were told as a run. Most runs of a sweep are like another one: they find their nodes there.
type node struct {
	heads heads
	next  [api.MaxGos]*node
	told  bool
}

// way is a run as far as it came: its picks and their node, the order there, how many changes are left. The picks are the
// search's own, which writes over them as it goes on: who keeps them, keeps a copy.
type way struct {
	picks []api.Pick
	at    *node
	queue queue
	left  int
}

// search goes through the runs of orders with changes; tell is handed each of them once, and whether it is cut, and says
// whether to go on. Of the states it keeps that of its newest node alone: there may be far more nodes than room for them.
type search struct {
	p      api.Prog
	b      api.Budget
	tell   func(picks []api.Pick, cut bool) bool
	newest *node
	state  api.State
}

// newNode is a node of a state.
func (x *search) newNode(s api.State) *node {
	x.newest, x.state = &node{heads: headsOf(x.p, s)}, s
	return x.newest
}

// behind tells the runs that begin with a way, and says whether to go on.
func (x *search) behind(w way) bool {
	h := w.at.heads
	if h.none() || len(w.picks) == x.b.Steps {
		// changes that are left come at steps that are not come to: by all of them this is the run.
		return x.end(w)
	}
	for q, left := range w.queue.turns(len(w.picks), w.left, h) {
		pick := q.pick(h)
		if !x.behind(way{append(w.picks, pick), x.step(w, pick), q, left}) {
			return false
		}
	}
	return true
}

// end tells a run, unless it was told, and says whether to go on.
func (x *search) end(w way) bool {
	if w.at.told {
		return true
	}
	w.at.told = true
	return x.tell(w.picks, !w.at.heads.none())
}

// step is the node that comes behind a way by a pick.
func (x *search) step(w way, pick api.Pick) *node {
	if w.at.next[pick.Go] == nil {
		s, _, _ := step.Do(x.p, x.stateOf(w), pick, x.b.Fuel)
		w.at.next[pick.Go] = x.newNode(s)
	}
	return w.at.next[pick.Go]
}

// stateOf is the state that a way's picks lead to.
func (x *search) stateOf(w way) api.State {
	if w.at == x.newest {
		return x.state
	}
	t, _, _ := sched.Run(x.p, w.picks, x.b)
	return t.End
}
