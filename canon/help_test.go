package canon_test

import (
	"math"
	"slices"
	"testing"

	"scarab/api"
	"scarab/sample"
	"scarab/sched"
)

// w is an object that is written, r one that is read.
func w(kind, num int) api.Access { return api.Access{Kind: kind, Num: num, Write: true} }

func r(kind, num int) api.Access { return api.Access{Kind: kind, Num: num} }

// event is an event of a goroutine with accesses beside the one to itself, which go ahead of it.
func event(g int, l ...api.Access) api.Event {
	x := api.Event{Go: g}
	x.Touches = copy(x.Touch[:], append(slices.Clone(l), w(api.ObGo, g)))
	return x
}

// apart and chained are the two traces of the chapter's example.
var (
	apart   = []api.Event{event(1, r(1, 0)), event(0, r(1, 1))}
	chained = []api.Event{event(1, w(1, 0)), event(0, w(1, 0))}
)

// net is a trace in which one happens before another by one between alone: 1 stores v0; 2 loads it; 3 loads it; 2 stores
// v1; 4 loads v1; 5 yields; 3 loads v1; 0 yields.
var net = []api.Event{event(1, w(1, 0)), event(2, r(1, 0)), event(3, r(1, 0)), event(2, w(1, 1)), event(4, r(1, 1)), event(5), event(3, r(1, 1)), event(0)}

// numbers are n numbers from 0 on.
func numbers(seed uint64, n int) []int {
	l := sample.Choices(seed, n)
	for i := range l {
		l[i] &= math.MaxInt
	}
	return l
}

// sparse are n events of which few depend on each other: each touches one variable at most, and seldom writes it.
func sparse(seed uint64, n int) []api.Event {
	l := make([]api.Event, n)
	for i := range l {
		x := numbers(seed*1000+uint64(i), 4)
		l[i] = event(x[0] % api.MaxGos)
		if x[3]%4 > 0 {
			l[i] = event(x[0]%api.MaxGos, api.Access{Kind: api.ObVar, Num: x[1] % api.MaxVars, Write: x[2]%5 == 0})
		}
		l[i].PC = i
	}
	return l
}

// traces are events that are a trace: some of runs, some not.
func traces(t *testing.T, n uint64) [][]api.Event {
	t.Helper()
	l := [][]api.Event{nil, {}, apart, chained, net}
	for seed := range n {
		p, b := sample.Small(seed), api.Budget{Steps: 24, Fuel: 20}
		if seed%4 == 0 {
			p = sample.Racy(seed)
		}
		picks, _ := sched.Choose(p, sample.Choices(seed, 24), b)
		if seed%3 == 0 {
			picks, _ = sched.Robin(p, b)
		}
		x, e, _ := sched.Run(p, picks, b)
		if e != api.OK {
			t.Fatal(e)
		}
		l = append(l, x.Events, sample.Trace(seed, int(seed%30)), sparse(seed, int(seed%35)))
	}
	return l
}

// long are traces with as many events as there may be.
func long() [][]api.Event {
	alone := make([]api.Event, api.MaxSteps)
	for i := range alone {
		alone[i] = event(api.MaxGos - 1 - i%api.MaxGos)
	}
	return [][]api.Event{alone, slices.Repeat([]api.Event{event(3)}, api.MaxSteps), sample.Trace(9, api.MaxSteps), sparse(9, api.MaxSteps)}
}

// dependent tells whether events depend on each other, by the words of chapter 10, field by field.
func dependent(a, b api.Event) bool {
	for i := range a.Touches {
		for j := range b.Touches {
			x, y := a.Touch[i], b.Touch[j]
			if x.Kind == y.Kind && x.Num == y.Num && (x.Write || y.Write) {
				return true
			}
		}
	}
	return false
}

// happens tells of each two places whether one happens before the other, by the words of chapter 12.
func happens(t []api.Event) [][]bool {
	is := make([][]bool, len(t))
	for i := range is {
		is[i] = make([]bool, len(t))
	}
	for far := 1; far < len(t); far++ {
		for i := range len(t) - far {
			j := i + far
			is[i][j] = dependent(t[i], t[j])
			for k := i + 1; k < j && !is[i][j]; k++ {
				is[i][j] = is[i][k] && is[k][j]
			}
		}
	}
	return is
}

// free are the places of those that are left whose past is not among them, rising.
func free(is [][]bool, left []int) []int {
	var l []int
	for _, j := range left {
		if !slices.ContainsFunc(left, func(i int) bool { return is[i][j] }) {
			l = append(l, j)
		}
	}
	return l
}

// drawn is an order that keeps what happens before what: each next one is drawn among those that may come.
func drawn(is [][]bool, seed uint64) []int {
	left := first(len(is))
	var way []int
	for _, n := range numbers(seed, len(is)) {
		may := free(is, left)
		next := may[n%len(may)]
		way = append(way, next)
		left = slices.DeleteFunc(left, func(i int) bool { return i == next })
	}
	return way
}

// keeps tells whether an order keeps what happens before what.
func keeps(is [][]bool, l []int) bool {
	for at, j := range l {
		for _, i := range l[at+1:] {
			if is[i][j] {
				return false
			}
		}
	}
	return true
}

// orders hands out all orders of a list's members.
func orders(l []int, at int, told func([]int)) {
	if at == len(l) {
		told(l)
	}
	for i := at; i < len(l); i++ {
		l[at], l[i] = l[i], l[at]
		orders(l, at+1, told)
		l[at], l[i] = l[i], l[at]
	}
}

// in are the events of a trace in an order.
func in(t []api.Event, way []int) []api.Event {
	var l []api.Event
	for _, i := range way {
		l = append(l, t[i])
	}
	return l
}

// first are the numbers from 0 to n - 1.
func first(n int) []int {
	l := make([]int, n)
	for i := range l {
		l[i] = i
	}
	return l
}

// spoil makes something else of all members of a list, and of its spare room.
func spoil[T any](l []T, odd T) {
	l = l[:cap(l)]
	for i := range l {
		l[i] = odd
	}
}
