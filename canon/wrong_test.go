package canon_test

import (
	"math"
	"slices"
	"testing"

	"scarab/api"
	"scarab/canon"
	"scarab/sample"
)

// refused asks that all calls tell an error of a trace, whatever else they are given, and nothing else.
func refused(t *testing.T, what string, l []api.Event, want api.Errno) {
	t.Helper()
	form, e1 := canon.Form(l)
	levels, e2 := canon.Levels(l)
	key, e3 := canon.Key(l)
	if len(form)+len(levels)+len(key) > 0 || e1 != want || e2 != want || e3 != want {
		t.Errorf("%s: Form %v %v, Levels %v %v, Key %q %v", what, form, e1, levels, e2, key, e3)
	}
	for _, way := range [][]int{nil, {0}, {-1}, {0, 0}, first(len(l)), make([]int, api.MaxSteps+1)} {
		if x, e := canon.Apply(l, way); len(x) > 0 || e != want {
			t.Errorf("%s: Apply of %v: %v %v", what, way, x, e)
		}
	}
	for _, most := range []int{1, 10000, 0, 10001, -1} {
		if n, e := canon.Count(l, most); n != 0 || e != want {
			t.Errorf("%s: Count to %d: %v %v", what, most, n, e)
		}
	}
	for _, other := range [][]api.Event{nil, apart, l} {
		a, e1 := canon.Same(l, other)
		b, e2 := canon.Same(other, l)
		if a || b || e1 != want || e2 != want {
			t.Errorf("%s: Same %v %v, %v %v", what, a, e1, b, e2)
		}
	}
}

// 13.1 to 13.4: what is wrong with a trace is told first of all.
func TestWrongEvents(t *testing.T) {
	many := slices.Repeat([]api.Event{event(1)}, api.MaxSteps+1)
	bad := func(l []api.Event) []api.Event {
		l = slices.Clone(l)
		l[len(l)-1].Touches = 0
		return l
	}
	refused(t, "one more", many, api.ErrLong)
	refused(t, "one more, the last one wrong", bad(many), api.ErrLong)
	refused(t, "far more", make([]api.Event, 1<<14), api.ErrLong)
	refused(t, "the last one wrong", bad(many[1:]), api.ErrTrace)
	refused(t, "nothing touched", []api.Event{{}}, api.ErrTrace)
	refused(t, "no goroutine", []api.Event{event(6), event(0)}, api.ErrTrace)
	refused(t, "below all goroutines", []api.Event{event(0), event(-1)}, api.ErrTrace)
	refused(t, "another one's", []api.Event{{Touches: 1, Touch: [6]api.Access{w(5, 1)}}}, api.ErrTrace)
	refused(t, "something behind", []api.Event{{Touches: 1, Touch: [6]api.Access{w(5, 0), w(6, 0)}}}, api.ErrTrace)
	// of two wrong traces the first one is told
	if is, e := canon.Same(many, bad(apart)); is || e != api.ErrLong {
		t.Errorf("Same of two wrong ones: %v %v", is, e)
	}
	if is, e := canon.Same(bad(apart), many); is || e != api.ErrTrace {
		t.Errorf("Same of two wrong ones: %v %v", is, e)
	}
}

// 13.2: what is no order of a trace, be it as long as it likes, and what does not keep what happens before what.
func TestWrongOrders(t *testing.T) {
	for _, way := range [][]int{nil, {}, {0}, {1}, {0, 0}, {1, 1}, {0, 2}, {2, 1}, {-1, 0}, {0, -1}, {0, 1, 1}, {0, 1, 2}, {1, 0, 0}, {0, math.MaxInt}, {math.MinInt, 1}, first(api.MaxSteps), first(api.MaxSteps + 1), make([]int, 1<<18)} {
		if l, e := canon.Apply(apart, way); len(l) > 0 || e != api.ErrArg {
			t.Errorf("%v: %v %v", way, l, e)
		}
	}
	for _, way := range [][]int{{0}, {0, 0}, {-1}, first(api.MaxSteps + 1)} {
		if l, e := canon.Apply(nil, way); len(l) > 0 || e != api.ErrArg {
			t.Errorf("%v of none: %v %v", way, l, e)
		}
	}
	if l, e := canon.Apply(nil, nil); len(l) > 0 || e != api.OK {
		t.Errorf("none of none: %v %v", l, e)
	}
	if l, e := canon.Apply(apart, []int{1, 0}); !slices.Equal(l, []api.Event{apart[1], apart[0]}) || e != api.OK {
		t.Errorf("apart: %v %v", l, e)
	}
	if l, e := canon.Apply(chained, []int{1, 0}); len(l) > 0 || e != api.ErrArg {
		t.Errorf("chained: %v %v", l, e)
	}
	// the loads of the goroutines 2 and 4 hang together by a store between alone
	if l, e := canon.Apply(net, []int{0, 2, 5, 7, 4, 1, 3, 6}); len(l) > 0 || e != api.ErrArg {
		t.Errorf("net: %v %v", l, e)
	}
}

// 13.4: how far it is counted.
func TestWrongMost(t *testing.T) {
	for _, most := range []int{math.MinInt, -10000, -1, 0, 10001, 10002, 1 << 32, math.MaxInt} {
		for _, l := range append(long(), nil, apart, net) {
			if n, e := canon.Count(l, most); n != 0 || e != api.ErrArg {
				t.Errorf("Count to %d: %d %v", most, n, e)
			}
		}
	}
}

// P1: calls with any events and places end without a panic.
func TestAnything(t *testing.T) {
	for seed := range uint64(200) {
		n := sample.Choices(seed, 40)
		x := api.Event{Go: n[0], Touches: n[1]}
		for i := range x.Touch {
			x.Touch[i] = api.Access{Kind: n[2+i], Num: n[8+i], Write: n[14+i]%2 == 0}
		}
		for _, l := range [][]api.Event{{event(0), x}, apart, net, nil} {
			canon.Form(l)
			canon.Levels(l)
			canon.Apply(l, n[20:22])
			canon.Apply(l, n)
			canon.Same(l, apart)
			canon.Same(net, l)
			canon.Count(l, n[23])
			canon.Key(l)
		}
	}
}

// R6: the same call tells the same.
func TestAgain(t *testing.T) {
	for seed := range uint64(10) {
		l := sparse(seed, 9)
		n, _ := canon.Count(l, 10000)
		key, _ := canon.Key(l)
		for range 5 {
			m, _ := canon.Count(l, 10000)
			again, _ := canon.Key(slices.Clone(l))
			if m != n || again != key {
				t.Errorf("seed %d: %d and %d, %q and %q", seed, n, m, key, again)
			}
		}
	}
}

// R3: events and places stay as they are, spare room too, and answers are new memory, each level too.
func TestMemory(t *testing.T) {
	odd := api.Event{Go: -7}
	for seed := range uint64(30) {
		was := append(sparse(seed, int(seed)), event(0))
		l := append(slices.Clone(was), odd, odd)[:len(was)]
		way := append(first(len(l)), -7)[:len(l)]
		form, _ := canon.Form(l)
		levels, _ := canon.Levels(l)
		kept, _ := canon.Levels(l)
		done, _ := canon.Apply(l, way)
		keptForm, keptDone := slices.Clone(form), slices.Clone(done)
		canon.Same(l, l)
		canon.Key(l)
		canon.Count(l, 10)
		spoil(form, -7)
		spoil(done, odd)
		for k := range levels {
			spoil(levels[k], -7)
			if !slices.EqualFunc(levels[k+1:], kept[k+1:], slices.Equal) {
				t.Errorf("seed %d: levels share memory", seed)
			}
		}
		spoil(levels, nil)
		form, _ = canon.Form(l)
		levels, _ = canon.Levels(l)
		done, _ = canon.Apply(l, way)
		if !slices.Equal(form, keptForm) || !slices.EqualFunc(levels, kept, slices.Equal) || !slices.Equal(done, keptDone) {
			t.Errorf("seed %d: an answer is kept", seed)
		}
		if !slices.Equal(l, was) || l[:len(was)+2][len(was)] != odd || !slices.Equal(way, first(len(l))) || way[:len(l)+1][len(l)] != -7 {
			t.Errorf("seed %d: a call changes its arguments", seed)
		}
	}
}
