package race_test

import (
	"math"
	"slices"
	"testing"

	"scarab/api"
	"scarab/asm"
	"scarab/sample"
	"scarab/sched"
)

// w is an object that is written, r one that is read.
func w(kind, num int) api.Access { return api.Access{Kind: kind, Num: num, Write: true} }

func r(kind, num int) api.Access { return api.Access{Kind: kind, Num: num} }

// event is an event of a goroutine with accesses beside the one to itself, which go ahead of it.
func event(g int, l ...api.Access) api.Event {
	x := api.Event{Go: g}
	x.Touches = copy(x.Touch[:], append(slices.Clone(l), w(api.ObGo, g)))
	return x
}

// does is an event with an operation.
func does(g int, op api.Op, l ...api.Access) api.Event {
	x := event(g, l...)
	x.Op = op
	return x
}

// lock, unlock and try are what a goroutine does to a lock.
func lock(g, n int) api.Event { return does(g, api.OpLock, w(2, n)) }

func unlock(g, n int) api.Event { return does(g, api.OpUnlock, w(2, n)) }

func try(g, n int, val int64) api.Event {
	x := does(g, api.OpTry, w(2, n))
	x.Val = val
	return x
}

// at is an event at a place.
func at(x api.Event, f, pc int) api.Event {
	x.Func, x.PC = f, pc
	return x
}

// store is an event that stores to a variable.
func store(g, v int) api.Event { return does(g, api.OpStore, w(1, v)) }

// load is an event that loads a variable.
func load(g, v int) api.Event { return does(g, api.OpLoad, r(1, v)) }

// vars is a program with variables of which some are atomic.
func vars(atomic ...bool) api.Prog {
	p := api.Prog{Funcs: []api.Func{{Code: []api.Instr{{Op: api.OpEnd}}}}}
	for _, is := range atomic {
		p.Vars = append(p.Vars, api.Var{Atomic: is})
	}
	return p
}

// numbers are n numbers from 0 on.
func numbers(seed uint64, n int) []int {
	l := sample.Choices(seed, n)
	for i := range l {
		l[i] &= math.MaxInt
	}
	return l
}

// draws tells numbers below others that hang on a seed.
func draws(seed uint64) func(n int) int {
	return func(n int) int {
		seed += 1 << 32
		return numbers(seed, 3)[2] % n
	}
}

// mixed are n events of a few goroutines that take and give back locks, and touch variables and other things: some as no
// run does.
func mixed(seed uint64, n int) []api.Event {
	draw := draws(seed)
	ops := []api.Op{api.OpLock, api.OpUnlock, api.OpTry, api.OpLoad, api.OpStore, api.OpYield}
	gos, nums := 1+draw(4), 1+draw(3)
	var l []api.Event
	for range n {
		g := draw(gos)
		var touch []api.Access
		op := ops[draw(len(ops))]
		if op >= api.OpLock && op <= api.OpTry {
			if draw(5) == 0 {
				touch = append(touch, api.Access{Kind: api.ObVar, Num: draw(nums), Write: draw(2) == 0})
			}
			if draw(6) > 0 {
				touch = append(touch, api.Access{Kind: api.ObLock, Num: draw(2), Write: draw(4) > 0})
			}
			if draw(6) == 0 {
				touch = append(touch, w(api.ObLock, 2+draw(2)))
			}
		} else if op != api.OpYield {
			for v := range nums {
				if draw(nums) == 0 {
					touch = append(touch, api.Access{Kind: api.ObVar, Num: v, Write: draw(2) == 0})
				}
			}
			if draw(9) == 0 {
				touch = append(touch, w(api.ObLock, draw(3)))
			}
			if draw(9) == 0 {
				touch = append(touch, api.Access{Kind: api.ObChan, Num: draw(2), Write: draw(2) == 0})
			}
		}
		x := does(g, op, touch...)
		x.Func, x.PC, x.Val = draw(3)-1, draw(4)-1, int64(draw(3))
		l = append(l, x)
	}
	return l
}

// play is a program and a trace, which is one of its runs or not.
type play struct {
	p   api.Prog
	t   []api.Event
	run bool
}

// runs are programs with their runs.
func runs(t *testing.T, n uint64) []play {
	t.Helper()
	var l []play
	for seed := range n {
		b := api.Budget{Steps: 40, Fuel: 20}
		for _, p := range []api.Prog{sample.Racy(seed), sample.Small(seed)} {
			picks, _ := sched.Choose(p, sample.Choices(seed+5, 40), b)
			if seed%4 == 0 {
				picks, _ = sched.Robin(p, b)
			}
			x, e, _ := sched.Run(p, picks, b)
			if e != api.OK {
				t.Fatal(e)
			}
			l = append(l, play{p, x.Events, true})
		}
	}
	return l
}

// plays are programs with traces: some of their runs, some not.
func plays(t *testing.T, n uint64) []play {
	t.Helper()
	l := runs(t, n)
	for seed := range n {
		draw := draws(seed + 7)
		p := vars(draw(2) == 0, draw(3) == 0, draw(3) == 0)
		p.Vars = p.Vars[:draw(4)]
		l = append(l, play{p, mixed(seed, int(seed%24)), false}, play{sample.Prog(seed), sample.Trace(seed, int(seed%24)), false})
	}
	return l
}

// longest are traces with as many events as there may be.
func longest() []play {
	var one, turns []api.Event
	for i := range api.MaxSteps {
		one = append(one, store(2, 0))
		turns = append(turns, store(i%api.MaxGos, 0))
	}
	p := vars(false, true)
	return []play{{p, one, false}, {p, turns, false}, {p, mixed(5, api.MaxSteps), false}, {p, sample.Trace(5, api.MaxSteps), false}}
}

// clashing tells whether events depend on each other by an object of which a function says yes, by the words of
// chapter 10.
func clashing(a, b api.Event, yes func(kind, num int) bool) bool {
	for i := range a.Touches {
		for j := range b.Touches {
			x, y := a.Touch[i], b.Touch[j]
			if x.Kind == y.Kind && x.Num == y.Num && (x.Write || y.Write) && yes(x.Kind, x.Num) {
				return true
			}
		}
	}
	return false
}

// dependent tells whether events depend on each other.
func dependent(a, b api.Event) bool {
	return clashing(a, b, func(_, _ int) bool { return true })
}

// isPlain tells whether an object is a plain variable of a program.
func isPlain(p api.Prog, kind, num int) bool {
	return kind == api.ObVar && num < len(p.Vars) && !p.Vars[num].Atomic
}

// upon tells whether events touch one plain variable, and one of them writes it.
func upon(p api.Prog, a, b api.Event) bool {
	return clashing(a, b, func(kind, num int) bool { return isPlain(p, kind, num) })
}

// follows tells of each two places whether one is ahead of the other: by a relation, or by one between.
func follows(n int, by func(i, j int) bool) [][]bool {
	is := make([][]bool, n)
	for i := range is {
		is[i] = make([]bool, n)
	}
	for far := 1; far < n; far++ {
		for i := range n - far {
			j := i + far
			is[i][j] = by(i, j)
			for k := i + 1; k < j && !is[i][j]; k++ {
				is[i][j] = is[i][k] && is[k][j]
			}
		}
	}
	return is
}

// happens tells of each two places whether one happens before the other, by the words of chapter 12.
func happens(t []api.Event) [][]bool {
	return follows(len(t), func(i, j int) bool { return dependent(t[i], t[j]) })
}

// between tells whether there is a place that the first of two is ahead of, and that is ahead of the second.
func between(is [][]bool, i, j int) bool {
	for k := range is {
		if is[i][k] && is[k][j] {
			return true
		}
	}
	return false
}

// drawn is an order that keeps what happens before what: each next one is drawn among those that may come.
func drawn(is [][]bool, seed uint64) []int {
	left := first(len(is))
	var way []int
	for _, n := range numbers(seed, len(is)) {
		var free []int
		for _, j := range left {
			if !slices.ContainsFunc(left, func(i int) bool { return is[i][j] }) {
				free = append(free, j)
			}
		}
		next := free[n%len(free)]
		way = append(way, next)
		left = slices.DeleteFunc(left, func(i int) bool { return i == next })
	}
	return way
}

// in are the events of a trace in an order.
func in(t []api.Event, way []int) []api.Event {
	var l []api.Event
	for _, i := range way {
		l = append(l, t[i])
	}
	return l
}

// first are the numbers from 0 to n - 1.
func first(n int) []int {
	l := make([]int, n)
	for i := range l {
		l[i] = i
	}
	return l
}

// parsed is the program of a text.
func parsed(t *testing.T, text string) api.Prog {
	t.Helper()
	p, e, line := asm.Parse(text)
	if e != api.OK {
		t.Fatalf("%v in line %d of %s", e, line, text)
	}
	return p
}

// spoil makes something else of all members of a list, and of its spare room.
func spoil[T any](l []T, odd T) {
	l = l[:cap(l)]
	for i := range l {
		l[i] = odd
	}
}
