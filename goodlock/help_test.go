package goodlock_test

import (
	"math"
	"slices"
	"testing"

	"scarab/api"
	"scarab/asm"
	"scarab/sample"
	"scarab/sched"
)

// w is an object that is written, r one that is read.
func w(kind, num int) api.Access { return api.Access{Kind: kind, Num: num, Write: true} }

func r(kind, num int) api.Access { return api.Access{Kind: kind, Num: num} }

// does is an event of a goroutine with an operation and accesses beside the one to itself, which go ahead of it.
func does(g int, op api.Op, l ...api.Access) api.Event {
	x := api.Event{Go: g, Op: op}
	x.Touches = copy(x.Touch[:], append(slices.Clone(l), w(api.ObGo, g)))
	return x
}

// lock, unlock and try are what a goroutine does to a lock.
func lock(g, n int) api.Event { return does(g, api.OpLock, w(2, n)) }

func unlock(g, n int) api.Event { return does(g, api.OpUnlock, w(2, n)) }

func try(g, n int, val int64) api.Event {
	x := does(g, api.OpTry, w(2, n))
	x.Val = val
	return x
}

// nest is a goroutine that takes locks, one within another, and gives them back, the last one first.
func nest(g int, l ...int) []api.Event {
	var t []api.Event
	for _, n := range l {
		t = append(t, lock(g, n))
	}
	for _, n := range slices.Backward(l) {
		t = append(t, unlock(g, n))
	}
	return t
}

// draws tells numbers below others that hang on a seed.
func draws(seed uint64) func(n int) int {
	return func(n int) int {
		seed += 1 << 32
		return sample.Choices(seed, 3)[2] & math.MaxInt % n
	}
}

// nests are events of goroutines that take locks one within another, each goroutine's one behind the other's.
func nests(seed uint64, n int) []api.Event {
	draw := draws(seed)
	gos, locks := 2+draw(4), 2+draw(3)
	var l []api.Event
	for range n {
		var in []int
		for range 2 + draw(3) {
			if n := draw(locks); !slices.Contains(in, n) {
				in = append(in, n)
			}
		}
		l = append(l, nest(draw(gos), in...)...)
	}
	return l
}

// mixed are n events of a few goroutines that take and give back locks, some of them as no run does.
func mixed(seed uint64, n int) []api.Event {
	draw := draws(seed)
	ops := []api.Op{api.OpLock, api.OpLock, api.OpLock, api.OpUnlock, api.OpTry, api.OpStore}
	gos, locks := 1+draw(5), 2+draw(3)
	var l []api.Event
	for range n {
		var touch []api.Access
		if draw(6) == 0 {
			touch = append(touch, w(api.ObVar, draw(2)))
		}
		first := draw(locks)
		if draw(8) > 0 {
			touch = append(touch, api.Access{Kind: api.ObLock, Num: first, Write: draw(4) > 0})
			if first+1 < locks && draw(5) == 0 {
				touch = append(touch, w(api.ObLock, first+1))
			}
		}
		if draw(8) == 0 {
			touch = append(touch, r(api.ObChan, draw(2)))
		}
		x := does(draw(gos), ops[draw(len(ops))], touch...)
		x.Val = int64(draw(3))
		l = append(l, x)
	}
	return l
}

// runs are the traces of runs.
func runs(t *testing.T, n uint64) [][]api.Event {
	t.Helper()
	var l [][]api.Event
	for seed := range n {
		b := api.Budget{Steps: 60, Fuel: 20}
		for _, p := range []api.Prog{sample.Racy(seed), sample.Small(seed), sample.Prog(seed)} {
			picks, _ := sched.Choose(p, sample.Choices(seed+5, 40), b)
			if seed%4 == 0 {
				picks, _ = sched.Robin(p, b)
			}
			x, e, _ := sched.Run(p, picks, b)
			if e != api.OK {
				t.Fatal(e)
			}
			l = append(l, x.Events)
		}
	}
	return l
}

// traces are traces, some of runs, some not.
func traces(t *testing.T, n uint64) [][]api.Event {
	t.Helper()
	l := runs(t, n)
	for seed := range n {
		l = append(l, nests(seed, int(seed%16)), mixed(seed, int(seed%40)), sample.Trace(seed, int(seed%20)))
	}
	return l
}

// longest are traces with as many events as there may be.
func longest() [][]api.Event {
	l := slices.Concat(every(1, 2, 3, 4), every(0, 5))
	return [][]api.Event{l[:api.MaxSteps], mixed(3, api.MaxSteps), nests(5, 128)[:api.MaxSteps], slices.Repeat([]api.Event{lock(2, 1), lock(2, 3)}, api.MaxSteps/2)}
}

// every are goroutines each of which takes every two locks, one within the other, both ways round.
func every(gos ...int) []api.Event {
	var l []api.Event
	for _, g := range gos {
		for a := range api.MaxLocks {
			for b := range api.MaxLocks {
				if a != b {
					l = append(l, nest(g, a, b)...)
				}
			}
		}
	}
	return l
}

// parsed is the program of a text.
func parsed(t *testing.T, text string) api.Prog {
	t.Helper()
	p, e, line := asm.Parse(text)
	if e != api.OK {
		t.Fatalf("%v in line %d of %s", e, line, text)
	}
	return p
}

// spoil makes something else of all members of a list, and of its spare room.
func spoil[T any](l []T, odd T) {
	l = l[:cap(l)]
	for i := range l {
		l[i] = odd
	}
}
