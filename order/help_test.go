package order_test

import (
	"math"
	"slices"
	"testing"

	"scarab/api"
	"scarab/sample"
	"scarab/sched"
)

// w is an object that is written, r one that is read.
func w(kind, num int) api.Access { return api.Access{Kind: kind, Num: num, Write: true} }

func r(kind, num int) api.Access { return api.Access{Kind: kind, Num: num} }

// event is an event of a goroutine with accesses beside the one to itself, which go ahead of it.
func event(g int, l ...api.Access) api.Event {
	x := api.Event{Go: g}
	x.Touches = copy(x.Touch[:], append(slices.Clone(l), w(api.ObGo, g)))
	return x
}

// example is the trace of the chapter's example 1.
var example = []api.Event{event(0, w(1, 0)), event(1, w(1, 1)), event(0, w(1, 1))}

// numbers are n numbers from 0 on.
func numbers(seed uint64, n int) []int {
	l := sample.Choices(seed, n)
	for i := range l {
		l[i] &= math.MaxInt
	}
	return l
}

// sparse are n events of which few depend on each other: each touches one variable at most, and seldom writes it.
func sparse(seed uint64, n int) []api.Event {
	l := make([]api.Event, n)
	for i := range l {
		x := numbers(seed*1000+uint64(i), 4)
		l[i] = event(x[0] % api.MaxGos)
		if x[3]%4 > 0 {
			l[i] = event(x[0]%api.MaxGos, api.Access{Kind: api.ObVar, Num: x[1] % api.MaxVars, Write: x[2]%5 == 0})
		}
	}
	return l
}

// traces are events that are a trace: some of runs, some not.
func traces(t *testing.T, n uint64) [][]api.Event {
	t.Helper()
	l := [][]api.Event{nil, {}, example}
	for seed := range n {
		p, b := sample.Small(seed), api.Budget{Steps: 24, Fuel: 20}
		picks, _ := sched.Choose(p, sample.Choices(seed, 24), b)
		if seed%3 == 0 {
			picks, _ = sched.Robin(p, b)
		}
		x, e, _ := sched.Run(p, picks, b)
		if e != api.OK {
			t.Fatal(e)
		}
		l = append(l, x.Events, sample.Trace(seed, int(seed%30)), sparse(seed, int(seed%35)))
	}
	return l
}

// long are traces with as many events as there may be.
func long() [][]api.Event {
	alone := make([]api.Event, api.MaxSteps)
	for i := range alone {
		alone[i] = event(i % api.MaxGos)
	}
	return [][]api.Event{alone, slices.Repeat([]api.Event{event(3)}, api.MaxSteps), sample.Trace(9, api.MaxSteps), sparse(9, api.MaxSteps)}
}

// dependent tells whether events depend on each other, by the words of chapter 10, field by field.
func dependent(a, b api.Event) bool {
	for i := range a.Touches {
		for j := range b.Touches {
			x, y := a.Touch[i], b.Touch[j]
			if x.Kind == y.Kind && x.Num == y.Num && (x.Write || y.Write) {
				return true
			}
		}
	}
	return false
}

// happens tells of each two places whether one happens before the other, by the chapter's words.
func happens(t []api.Event) [][]bool {
	is := make([][]bool, len(t))
	for i := range is {
		is[i] = make([]bool, len(t))
	}
	for far := 1; far < len(t); far++ {
		for i := range len(t) - far {
			j := i + far
			is[i][j] = dependent(t[i], t[j])
			for k := i + 1; k < j && !is[i][j]; k++ {
				is[i][j] = is[i][k] && is[k][j]
			}
		}
	}
	return is
}

// first are the numbers from 0 to n - 1.
func first(n int) []int {
	l := make([]int, n)
	for i := range l {
		l[i] = i
	}
	return l
}

// spoil makes something else of all members of a list, and of its spare room.
func spoil[T any](l []T, odd T) {
	l = l[:cap(l)]
	for i := range l {
		l[i] = odd
	}
}
