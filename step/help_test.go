package step_test

import (
	"math"
	"slices"
	"testing"

	"scarab/api"
	"scarab/sample"
	"scarab/state"
	"scarab/step"
)

// far are numbers that are out of most ranges.
var far = []int{math.MinInt, math.MinInt32, -2, -1, 4097, 1 << 32, math.MaxInt - 1, math.MaxInt}

// Channels of bench by their capacities.
const (
	plain  = iota // unbuffered
	single        // of 1
	double        // of 2
	other         // unbuffered too
)

// bench is a program with things to work on, and a function for each of some instructions: that one at the place 0,
// then two yields and an end. v0 is atomic, v1 is not.
func bench(ins ...api.Instr) api.Prog {
	p := api.Prog{Vars: []api.Var{{Atomic: true}, {}}, Locks: 2, Chans: []int{plain: 0, single: 1, double: 2, other: 0}}
	for _, in := range ins {
		p.Funcs = append(p.Funcs, api.Func{Regs: 4, Code: []api.Instr{in, {Op: api.OpYield}, {Op: api.OpYield}, {Op: api.OpEnd}}})
	}
	return p
}

// standing is a state in which goroutines stand at the place 0 of functions.
func standing(fs ...int) api.State {
	s := api.State{Count: len(fs)}
	for g, f := range fs {
		s.Gos[g] = api.Go{Status: api.GoLive, Func: f}
	}
	return s
}

// with is a state with the registers of its goroutine 0.
func with(s api.State, regs ...int64) api.State {
	copy(s.Gos[0].Regs[:], regs)
	return s
}

// gone is goroutine 0 behind its step, at a place, with registers.
func gone(s api.State, pc int, regs ...int64) api.State {
	s.Gos[0] = api.Go{Status: api.GoLive, Func: s.Gos[0].Func, PC: pc}
	copy(s.Gos[0].Regs[:], regs)
	return s
}

// failed is a state in which goroutine 0 failed where it stands.
func failed(s api.State, why int) api.State {
	s.Gos[0] = api.Go{Status: api.GoFailed, Func: s.Gos[0].Func, PC: s.Gos[0].PC, Why: why}
	return s
}

// thing is a program and a state of it.
type thing struct {
	p api.Prog
	s api.State
}

// things are programs with states, be they such that runs come to or not.
func things(n uint64) []thing {
	var l []thing
	for seed := range n {
		small, large := sample.Small(seed), sample.Prog(seed)
		l = append(l, thing{small, sample.State(small, seed)}, thing{small, sample.State(small, seed+n)}, thing{large, sample.State(large, seed)})
	}
	return l
}

// runs are programs with the states that some of their runs come to.
func runs(t *testing.T, n uint64) []thing {
	var l []thing
	for seed := range n {
		p := sample.Small(seed)
		s, e := state.Start(p, 20)
		for i := range uint64(25) {
			l = append(l, thing{p, s})
			ready, e := step.Ready(p, s)
			if e != api.OK {
				t.Fatal(e)
			}
			if len(ready) == 0 {
				break
			}
			s, _, e = step.Do(p, s, ready[(seed*7+i*i+i/3)%uint64(len(ready))], 20)
			if e != api.OK {
				t.Fatal(e)
			}
		}
		if e != api.OK {
			t.Fatal(e)
		}
	}
	return l
}

// same asks that two lists are the same, and that there was no error.
func same[T comparable](t *testing.T, what string, l []T, e api.Errno, want ...T) {
	t.Helper()
	if e != api.OK || !slices.Equal(l, want) {
		t.Errorf("%s: %v %v, not %v", what, l, e, want)
	}
}

// clash tells whether two lists of accesses have an object in common that one of them writes.
func clash(a, b []api.Access) bool {
	for _, x := range a {
		for _, y := range b {
			if x.Kind == y.Kind && x.Num == y.Num && (x.Write || y.Write) {
				return true
			}
		}
	}
	return false
}
