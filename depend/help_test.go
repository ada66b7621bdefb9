package depend_test

import (
	"math"
	"slices"
	"testing"

	"scarab/api"
	"scarab/asm"
	"scarab/sample"
	"scarab/sched"
)

// far are numbers that are out of most ranges.
var far = []int{math.MinInt, math.MinInt32, -2, -1, 300, 1 << 32, math.MaxInt - 1, math.MaxInt}

// w is an object that is written, r one that is read.
func w(kind, num int) api.Access { return api.Access{Kind: kind, Num: num, Write: true} }

func r(kind, num int) api.Access { return api.Access{Kind: kind, Num: num} }

// event is an event of a goroutine with accesses beside the one to itself, which go ahead of it.
func event(g int, l ...api.Access) api.Event {
	x := api.Event{Go: g}
	x.Touches = copy(x.Touch[:], append(slices.Clone(l), w(api.ObGo, g)))
	return x
}

// clashing tells whether accesses clash, by the chapter's words, field by field.
func clashing(a, b []api.Access) bool {
	for _, x := range a {
		for _, y := range b {
			if x.Kind == y.Kind && x.Num == y.Num && (x.Write || y.Write) {
				return true
			}
		}
	}
	return false
}

// touched is what an event touches.
func touched(x api.Event) []api.Access {
	var l []api.Access
	for i := range x.Touch {
		if i < x.Touches {
			l = append(l, x.Touch[i])
		}
	}
	return l
}

// parsed is the program of a text.
func parsed(t *testing.T, text string) api.Prog {
	t.Helper()
	p, e, line := asm.Parse(text)
	if e != api.OK {
		t.Fatalf("%v in line %d of %s", e, line, text)
	}
	return p
}

// gos are picks of goroutines, each by its alternative 0.
func gos(l ...int) []api.Pick {
	var picks []api.Pick
	for _, g := range l {
		picks = append(picks, api.Pick{Go: g})
	}
	return picks
}

// enough is a budget with which all programs here that end come to their end.
var enough = api.Budget{Steps: 40, Fuel: 50}

// play is a program, a legal schedule, and its events.
type play struct {
	p      api.Prog
	picks  []api.Pick
	b      api.Budget
	events []api.Event
}

// plays are runs of sampled programs.
func plays(t *testing.T, n uint64) []play {
	t.Helper()
	var l []play
	for seed := range n {
		p, b := sample.Small(seed), api.Budget{Steps: 24, Fuel: 20}
		if seed%6 == 0 {
			p = sample.Prog(seed)
		}
		picks, _ := sched.Choose(p, sample.Choices(seed, 24), b)
		if seed%3 == 0 {
			picks, _ = sched.Robin(p, b)
		}
		x, e, _ := sched.Run(p, picks, b)
		if e != api.OK {
			t.Fatal(e)
		}
		l = append(l, play{p, picks, b, x.Events})
	}
	return l
}

// traces are events that are a trace: some of runs, some not.
func traces(t *testing.T, n uint64) [][]api.Event {
	t.Helper()
	l := [][]api.Event{nil, {}}
	for _, x := range plays(t, n) {
		l = append(l, x.events)
	}
	for seed := range n {
		l = append(l, sample.Trace(seed, int(seed%40)))
	}
	return append(l, sample.Trace(n, api.MaxSteps))
}
