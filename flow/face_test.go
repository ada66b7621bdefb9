package flow_test

import (
	"math"
	"slices"
	"testing"

	"scarab/api"
	"scarab/flow"
	"scarab/prog"
)

// answer is what a call told: how much, and its error.
type answer struct {
	size int
	e    api.Errno
}

func told[T any](l []T, e api.Errno) answer { return answer{len(l), e} }

// Of the answers to all calls these ask for a place, and these for a function.
const placeCalls, funcCalls = 5, 7

// answers are those of all calls.
func answers(p api.Prog, f, pc int) []answer {
	n, e := flow.Longest(p, f, pc)
	return []answer{
		told(flow.Next(p, f, pc)), told(flow.Reach(p, f, pc)), told(flow.Touches(p, f, pc)), told(flow.May(p, f, pc)), {n, e},
		told(flow.Spins(p, f)), told(flow.Heads(p, f)),
		told(flow.Funcs(p)), told(flow.Idle(p)),
	}
}

// far are numbers that no function and no place has.
var far = []int{math.MinInt, -1, 64, 1 << 32, math.MaxInt}

// 6.1 to 6.4: programs that are not right are told first of all.
func TestErrProg(t *testing.T) {
	falls := counter()
	falls.Funcs[0].Code[4] = api.Instr{Op: api.OpYield}
	nobody := every()
	nobody.Funcs[0].Code[14].B = 1
	for _, p := range []api.Prog{{}, falls, nobody} {
		for _, x := range append(far, 0, 5) {
			for i, a := range answers(p, x, x) {
				if a != (answer{0, api.ErrProg}) {
					t.Errorf("{%d %d}, call %d: %v", x, x, i, a)
				}
			}
		}
	}
}

// 6.1 to 6.4: functions and places that are not there.
func TestErrArg(t *testing.T) {
	refused := func(f, pc, calls int) {
		t.Helper()
		for i, a := range answers(spawner(), f, pc) {
			if i < calls && a != (answer{0, api.ErrArg}) || i >= calls && a.e != api.OK {
				t.Errorf("{%d %d}, call %d: %v", f, pc, i, a)
			}
		}
	}
	for _, x := range append(far, 2) {
		refused(x, 0, funcCalls)
		refused(x, x, funcCalls)
	}
	for _, x := range append(far, 3) {
		refused(0, x, placeCalls)
	}
	refused(1, 2, placeCalls)
	refused(1, 1, 0)
}

// twice asks that two answers to one call are the same, whatever is done to the first one's memory, spare room too.
func twice[T comparable](t *testing.T, call func() ([]T, api.Errno), other T) {
	t.Helper()
	first, _ := call()
	kept := slices.Clone(first)
	first = first[:cap(first)]
	for i := range first {
		first[i] = other
	}
	if again, _ := call(); !slices.Equal(again, kept) {
		t.Errorf("%v, and then %v", kept, again)
	}
}

// R3: what is handed in stays, and answers are new memory.
func TestMemory(t *testing.T) {
	for _, p := range programs()[:15] {
		before := prog.Copy(p)
		place := func(call func(api.Prog, int, int) ([]int, api.Errno)) {
			twice(t, func() ([]int, api.Errno) { return call(p, 0, 0) }, -7)
		}
		function := func(call func(api.Prog, int) ([]int, api.Errno)) {
			twice(t, func() ([]int, api.Errno) { return call(p, 0) }, -7)
		}
		access := func(call func(api.Prog, int, int) ([]api.Access, api.Errno)) {
			twice(t, func() ([]api.Access, api.Errno) { return call(p, 0, 0) }, api.Access{Kind: -7})
		}
		place(flow.Next)
		place(flow.Reach)
		function(flow.Spins)
		function(flow.Heads)
		access(flow.Touches)
		access(flow.May)
		twice(t, func() ([]int, api.Errno) { return flow.Funcs(p) }, -7)
		twice(t, func() ([]api.Spot, api.Errno) { return flow.Idle(p) }, api.Spot{Func: -7})
		flow.Longest(p, 0, 0)
		if !prog.Same(p, before) {
			t.Error("a call changes its program")
		}
	}
}
