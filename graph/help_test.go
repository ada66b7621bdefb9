package graph_test

import (
	"math"
	"slices"
	"strconv"
	"testing"

	"scarab/api"
	"scarab/asm"
	"scarab/sample"
	"scarab/state"
	"scarab/step"
)

// far are numbers that are out of most ranges.
var far = []int{math.MinInt, math.MinInt32, -2, -1, 1 << 17, 1 << 32, math.MaxInt - 1, math.MaxInt}

// fuel is enough for all programs that are written out.
const fuel = 50

// Programs that are gone through often.
const (
	// one goroutine, one step.
	lone = "scarab\nfunc 0 0\nyield\nend"
	// one goroutine, no step.
	none = "scarab\nfunc 0 0\nend"
	// a yield for ever.
	ring = "scarab\nfunc 0 0\nyield\njump @0"
	// main spawns one that yields, and yields itself.
	pair = "scarab\nfunc 0 0\nspawn _ f1 r0\nyield\nend\nfunc 0 0\nyield\nend"
	// main locks a lock twice.
	stuck = "scarab\nmutex\nfunc 0 0\nlock l0\nlock l0\nend"
	// two steps ahead of a ring of three.
	three = "scarab\nfunc 0 0\nyield\nyield\nyield\nyield\nyield\njump @2"
	// main goes round a ring of two steps until a select leaves it, then one step, then a ring of one.
	eight = `scarab
		chan 1
		func 0 1
		choose @1
		onrecv c0 _ @2
		onrecv c0 _ @4
		close c0
		yield
		select s0
		end
		yield
		yield
		jump @5`
	// main counts up for ever.
	count = "scarab\natomic 0\nfunc 0 1\nconst r0 1\nbump _ v0 r0\njump @1"
	// main and another one take two locks each, each first the other one's second.
	locks = `scarab
		mutex
		mutex
		func 0 0
		spawn _ f1 r0
		lock l0
		lock l1
		unlock l1
		unlock l0
		end
		func 0 0
		lock l1
		lock l0
		unlock l0
		unlock l1
		end`
)

// selects is a program that goes so many times through a select with four ready cases, and then through one with some,
// from 1 to 4.
func selects(times, cases int) string {
	text := "scarab\nchan 0\nfunc 0 2\nchoose _\n"
	for range 4 {
		text += "onrecv c0 _ @4\n"
	}
	text += "choose _\n"
	for range cases {
		text += "onrecv c0 _ @7\n"
	}
	return text + "const r0 " + strconv.Itoa(times) + "\nconst r1 1\nclose c0\nselect s0\nsub r0 r0 r1\nif r0 @3\nselect s1\nend\n"
}

// aside is a program that goes so many times through a select with four ready cases, or past them.
func aside(times int) string {
	text := "scarab\nchan 0\nfunc 0 2\nchoose _\n"
	for range 4 {
		text += "onrecv c0 _ @5\n"
	}
	text += "choose _\nonrecv c0 _ @4\nonrecv c0 _ @7\n"
	return text + "const r0 " + strconv.Itoa(times) + "\nconst r1 1\nclose c0\nselect s1\nselect s0\nsub r0 r0 r1\nif r0 @4\nend\n"
}

// parsed is the program of a text.
func parsed(t *testing.T, text string) api.Prog {
	t.Helper()
	p, e, line := asm.Parse(text)
	if e != api.OK {
		t.Fatalf("%v in line %d of %s", e, line, text)
	}
	return p
}

// gos are picks of goroutines, each by its alternative 0.
func gos(l ...int) []api.Pick {
	var picks []api.Pick
	for _, g := range l {
		picks = append(picks, api.Pick{Go: g})
	}
	return picks
}

// edge is an edge of a goroutine by its alternative 0.
func edge(g, to int) api.Edge { return api.Edge{Pick: api.Pick{Go: g}, To: to} }

// done is a state behind a step.
func done(t *testing.T, p api.Prog, s api.State, pick api.Pick, fuel int) api.State {
	t.Helper()
	next, _, e := step.Do(p, s, pick, fuel)
	if e != api.OK {
		t.Fatalf("%v: %v", pick, e)
	}
	return next
}

// open are the picks that are ready in a state.
func open(t *testing.T, p api.Prog, s api.State) []api.Pick {
	t.Helper()
	l, e := step.Ready(p, s)
	if e != api.OK {
		t.Fatal(e)
	}
	return l
}

// worked is the graph as the chapter words it, its states held against each other one by one.
func worked(t *testing.T, p api.Prog, fuel, most int) api.Graph {
	t.Helper()
	start, e := state.Start(p, fuel)
	if e != api.OK {
		t.Fatal(e)
	}
	g := api.Graph{States: []api.State{start}, Complete: true}
	for n := 0; n < len(g.States); n++ {
		g.Edges = append(g.Edges, nil)
		for _, pick := range open(t, p, g.States[n]) {
			next := done(t, p, g.States[n], pick, fuel)
			to := slices.Index(g.States, next)
			if to == -1 && len(g.States) < most {
				to = len(g.States)
				g.States = append(g.States, next)
			}
			g.Complete = g.Complete && to != -1
			g.Edges[n] = append(g.Edges[n], api.Edge{Pick: pick, To: to})
		}
	}
	return g
}

// same tells whether two graphs are.
func same(a, b api.Graph) bool {
	return a.Complete == b.Complete && slices.Equal(a.States, b.States) && slices.EqualFunc(a.Edges, b.Edges, slices.Equal)
}

// reached are the states to which edges lead from one, by one edge or more.
func reached(g api.Graph, from int) []int {
	var l []int
	work := []int{from}
	for len(work) > 0 {
		n := work[0]
		work = work[1:]
		for _, x := range g.Edges[n] {
			if x.To != -1 && !slices.Contains(l, x.To) {
				l = append(l, x.To)
				work = append(work, x.To)
			}
		}
	}
	return l
}

// onRings are the states that edges lead back to.
func onRings(g api.Graph) []int {
	var l []int
	for n := range g.States {
		if slices.Contains(reached(g, n), n) {
			l = append(l, n)
		}
	}
	return l
}

// way is the way to a state as the chapter words it.
func way(g api.Graph, to int) []api.Pick {
	if to == 0 {
		return nil
	}
	for n, l := range g.Edges {
		for _, x := range l {
			if x.To == to {
				return append(way(g, n), x.Pick)
			}
		}
	}
	return nil
}

// walked goes through all ways from a state to stuck ones: how many there are, and how long the longest one is; false, if
// there are more than most.
func walked(g api.Graph, n, most int) (int, int, bool) {
	if len(g.Edges[n]) == 0 {
		return 1, 0, true
	}
	ways, length := 0, 0
	for _, x := range g.Edges[n] {
		more, long, some := walked(g, x.To, most-ways)
		if !some || ways+more > most {
			return 0, 0, false
		}
		ways, length = ways+more, max(length, long+1)
	}
	return ways, length, true
}

// task is a program, its fuel, and how many states are asked for.
type task struct {
	p          api.Prog
	fuel, most int
}

// tasks are sampled programs, with all kinds of fuel, and as many states as are there, or fewer.
func tasks(n uint64) []task {
	var l []task
	for seed := range n {
		p := sample.Small(seed)
		switch seed % 8 {
		case 3:
			p = sample.Prog(seed)
		case 5:
			p = sample.Racy(seed)
		}
		most := 300
		if seed%3 == 0 {
			most = 1 + int(seed*7%40)
		}
		l = append(l, task{p, int(seed * 7 % 31), most})
	}
	return l
}

// spoil makes all members of a list, and its spare room, something else.
func spoil[T any](l []T, odd T) {
	l = l[:cap(l)]
	for i := range l {
		l[i] = odd
	}
}
