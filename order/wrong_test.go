package order_test

import (
	"math"
	"slices"
	"testing"

	"scarab/api"
	"scarab/order"
	"scarab/sample"
)

// asked asks that all calls tell an error of a trace and places, and nothing else.
func asked(t *testing.T, what string, l []api.Event, i, j int, places []int, want api.Errno) {
	t.Helper()
	before, e1 := order.Before(l, i, j)
	apart, e2 := order.Apart(l, i, j)
	past, e3 := order.Past(l, i)
	linear, e4 := order.Linear(l, places)
	cut, e5 := order.Cut(l, places)
	closed, e6 := order.Closed(l, places)
	if before || apart || len(past) > 0 || linear || cut || len(closed) > 0 {
		t.Errorf("%s: %v %v %v %v %v %v", what, before, apart, past, linear, cut, closed)
	}
	for n, e := range []api.Errno{e1, e2, e3, e4, e5, e6} {
		if e != want {
			t.Errorf("%s: call %d tells %v, not %v", what, n, e, want)
		}
	}
}

// whole asks that all calls that take a trace alone tell an error, and nothing else.
func whole(t *testing.T, what string, l []api.Event, want api.Errno) {
	t.Helper()
	clocks, e1 := order.Clocks(l)
	edges, e2 := order.Edges(l)
	lasts, e3 := order.Lasts(l)
	height, e4 := order.Height(l)
	if len(clocks)+len(edges)+len(lasts)+height != 0 {
		t.Errorf("%s: %v %v %v %v", what, clocks, edges, lasts, height)
	}
	for n, e := range []api.Errno{e1, e2, e3, e4} {
		if e != want {
			t.Errorf("%s: call %d tells %v, not %v", what, n, e, want)
		}
	}
}

// 12.1 to 12.3: what is wrong with the events is told first of all.
func TestWrongEvents(t *testing.T) {
	many := slices.Repeat([]api.Event{event(1)}, api.MaxSteps+1)
	bad := func(l []api.Event) []api.Event {
		l = slices.Clone(l)
		l[len(l)-1].Touches = 0
		return l
	}
	for _, x := range []struct {
		what string
		l    []api.Event
		want api.Errno
	}{
		{"one more", many, api.ErrLong}, {"one more, the last one wrong", bad(many), api.ErrLong},
		{"far more", make([]api.Event, 1<<16), api.ErrLong}, {"the last one wrong", bad(many[1:]), api.ErrTrace},
		{"nothing touched", []api.Event{{}}, api.ErrTrace}, {"the first one wrong", []api.Event{event(6), event(0)}, api.ErrTrace},
		{"another one's", []api.Event{{Touches: 1, Touch: [6]api.Access{w(5, 1)}}}, api.ErrTrace},
	} {
		whole(t, x.what, x.l, x.want)
		asked(t, x.what, x.l, 0, 0, []int{0}, x.want)
		asked(t, x.what+", places that are none", x.l, -1, math.MaxInt, []int{-1}, x.want)
		asked(t, x.what+", too many places", x.l, 0, -1, make([]int, api.MaxSteps+1), x.want)
	}
}

// 12.1, 12.3: places that are none, first, last, or among others.
func TestWrongPlaces(t *testing.T) {
	for _, i := range []int{math.MinInt, -1, 3, 4, api.MaxSteps, 1 << 32, math.MaxInt} {
		asked(t, "a place", example, i, 0, []int{i}, api.ErrArg)
		asked(t, "two places", example, i, i, []int{i, i}, api.ErrArg)
		asked(t, "a place behind", example, i, 2, []int{0, 1, i}, api.ErrArg)
		asked(t, "a place between", example, i, 1, []int{0, i, 1}, api.ErrArg)
		asked(t, "a place of none", nil, i, 0, []int{i}, api.ErrArg)
		for j := range example {
			if is, e := order.Before(example, j, i); is || e != api.ErrArg {
				t.Errorf("Before %d, %d: %v %v", j, i, is, e)
			}
			if is, e := order.Apart(example, j, i); is || e != api.ErrArg {
				t.Errorf("Apart %d, %d: %v %v", j, i, is, e)
			}
		}
	}
}

// 12.3: more than MaxSteps places are told ahead of one that is none, and of one that stands there twice.
func TestManyPlaces(t *testing.T) {
	most := slices.Repeat([]int{1}, api.MaxSteps)
	for _, l := range [][]int{append(slices.Clone(most), 1), append(slices.Clone(most), -1), slices.Repeat([]int{-1}, api.MaxSteps+1), make([]int, 1<<18)} {
		for _, events := range [][]api.Event{example, nil} {
			if is, e := order.Linear(events, l); is || e != api.ErrLong {
				t.Errorf("Linear: %v %v", is, e)
			}
			if is, e := order.Cut(events, l); is || e != api.ErrLong {
				t.Errorf("Cut: %v %v", is, e)
			}
			if got, e := order.Closed(events, l); len(got) > 0 || e != api.ErrLong {
				t.Errorf("Closed: %v %v", got, e)
			}
		}
	}
	if is, e := order.Linear(example, most); is || e != api.ErrArg {
		t.Errorf("Linear of one as often as may be: %v %v", is, e)
	}
	if is, e := order.Cut(example, most); !is || e != api.OK {
		t.Errorf("Cut of one as often as may be: %v %v", is, e)
	}
	if got, e := order.Closed(example, most); !slices.Equal(got, []int{1}) || e != api.OK {
		t.Errorf("Closed of one as often as may be: %v %v", got, e)
	}
}

// 12.3: orders that have not each place just once.
func TestNoOrder(t *testing.T) {
	for _, l := range [][]int{nil, {}, {0}, {0, 1}, {1, 2}, {0, 0, 2}, {0, 0, 0}, {2, 2, 1}, {0, 1, 1}, {0, 1, 2, 2}, {0, 1, 2, 0}, {0, 1, 3}, {-1, 0, 1}, {1, 2, 3}, {0, 1, 2, 3}} {
		if is, e := order.Linear(example, l); is || e != api.ErrArg {
			t.Errorf("%v: %v %v", l, is, e)
		}
	}
	for _, l := range [][]int{{0}, {0, 0}} {
		if is, e := order.Linear(nil, l); is || e != api.ErrArg {
			t.Errorf("%v of none: %v %v", l, is, e)
		}
	}
}

// P1: calls with any events and places end without a panic.
func TestAnything(t *testing.T) {
	for seed := range uint64(200) {
		n := sample.Choices(seed, 40)
		x := api.Event{Go: n[0], Touches: n[1]}
		for i := range x.Touch {
			x.Touch[i] = api.Access{Kind: n[2+i], Num: n[8+i], Write: n[14+i]%2 == 0}
		}
		for _, l := range [][]api.Event{{event(0), x}, example, nil} {
			order.Clocks(l)
			order.Before(l, n[20], n[21])
			order.Apart(l, n[20], n[21])
			order.Past(l, n[20])
			order.Edges(l)
			order.Linear(l, n[20:23])
			order.Cut(l, n[23:30])
			order.Closed(l, n[30:])
			order.Lasts(l)
			order.Height(l)
		}
	}
}

// R3: events and places stay as they are, spare room too, and answers are new memory.
func TestMemory(t *testing.T) {
	odd := api.Event{Go: -7}
	for seed := range uint64(30) {
		was := append(sparse(seed, int(seed)), event(0))
		l := append(slices.Clone(was), odd, odd)[:len(was)]
		last := len(l) - 1
		places := append(slices.Clone(numbers(seed, 3)), -7, -7)[:3]
		for i := range places {
			places[i] %= len(l)
		}
		asks := slices.Clone(places)
		turn := append(first(len(l)), -7)[:len(l)]
		slices.Reverse(turn)
		clocks, _ := order.Clocks(l)
		edges, _ := order.Edges(l)
		past, _ := order.Past(l, last)
		lasts, _ := order.Lasts(l)
		closed, _ := order.Closed(l, places)
		order.Linear(l, turn)
		order.Cut(l, places)
		kept := [...][]int{slices.Clone(past), slices.Clone(lasts), slices.Clone(closed)}
		keptClocks, keptEdges := slices.Clone(clocks), slices.Clone(edges)
		spoil(clocks, api.Clock{-7})
		spoil(edges, [2]int{-7, -7})
		spoil(past, -7)
		spoil(lasts, -7)
		spoil(closed, -7)
		clocks, _ = order.Clocks(l)
		edges, _ = order.Edges(l)
		past, _ = order.Past(l, last)
		lasts, _ = order.Lasts(l)
		closed, _ = order.Closed(l, places)
		if !slices.Equal(clocks, keptClocks) || !slices.Equal(edges, keptEdges) || !slices.Equal(past, kept[0]) || !slices.Equal(lasts, kept[1]) || !slices.Equal(closed, kept[2]) {
			t.Errorf("seed %d: an answer is kept", seed)
		}
		slices.Reverse(turn)
		if !slices.Equal(l, was) || l[:len(was)+2][len(was)] != odd || !slices.Equal(places, asks) || places[:5][3] != -7 || !slices.Equal(turn, first(len(l))) || turn[:len(l)+1][len(l)] != -7 {
			t.Errorf("seed %d: a call changes its arguments", seed)
		}
	}
}
