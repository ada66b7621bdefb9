package depend_test

import (
	"slices"
	"testing"

	"scarab/api"
	"scarab/depend"
	"scarab/sample"
)

// checked asks what Check tells of events, and that those who are given them tell the same, and nothing else.
func checked(t *testing.T, what string, l []api.Event, want api.Errno) {
	t.Helper()
	if e := depend.Check(l); e != want {
		t.Errorf("%s: %v, not %v: %v", what, e, want, l)
	}
	table, e1 := depend.Table(l)
	objects, e2 := depend.Objects(l)
	users, e3 := depend.Users(l, api.ObGo, 0)
	if e1 != want || e2 != want || e3 != want || want != api.OK && len(table)+len(objects)+len(users) > 0 {
		t.Errorf("%s: %v %v, %v %v, %v %v, not %v", what, table, e1, objects, e2, users, e3, want)
	}
}

// one asks of an event by itself, and among others that are right.
func one(t *testing.T, what string, x api.Event, want bool) {
	t.Helper()
	e := api.ErrTrace
	if want {
		e = api.OK
	}
	checked(t, what, []api.Event{x}, e)
	checked(t, what, []api.Event{event(0), x, event(1, r(1, 0))}, e)
	checked(t, what, []api.Event{event(0), event(3, w(2, 1)), x}, e)
}

// 10.1: Check, of what each event must have.
func TestCheckEvent(t *testing.T) {
	with := func(g int, l ...api.Access) api.Event {
		x := api.Event{Go: g, Touches: len(l)}
		copy(x.Touch[:], l)
		return x
	}
	for g := range api.MaxGos {
		one(t, "itself", event(g), true)
	}
	one(t, "nothing", api.Event{}, false)
	one(t, "goroutine 6", event(6), false)
	one(t, "goroutine -1", event(-1), false)
	one(t, "another goroutine's", with(0, w(5, 1)), false)
	one(t, "another goroutine's, too", with(0, w(5, 0), w(5, 1)), true)
	one(t, "itself, read", with(0, r(5, 0)), false)
	one(t, "itself, read and written", with(0, r(5, 0), w(5, 0)), false)
	one(t, "itself, written and read", with(0, w(5, 0), r(5, 0)), false)
	one(t, "not itself", with(0, w(1, 0), w(2, 0)), false)
	one(t, "six", with(0, r(1, 0), r(1, 1), r(1, 2), r(1, 3), r(1, 4), w(5, 0)), true)
	one(t, "six kinds", with(0, r(1, 7), w(2, 3), r(3, 3), w(4, 0), w(5, 0), r(6, 0)), true)
	one(t, "by kind", with(0, w(2, 0), w(1, 0), w(5, 0)), false)
	one(t, "itself ahead of a variable", with(0, w(5, 0), w(1, 0)), false)
	one(t, "by number", with(0, w(1, 1), w(1, 0), w(5, 0)), false)
	one(t, "a lower number of a higher kind", with(0, w(1, 1), w(2, 0), w(5, 0)), true)
	one(t, "twice", with(0, w(1, 1), w(1, 1), w(5, 0)), false)
	one(t, "twice, one read", with(0, r(1, 1), w(1, 1), w(5, 0)), false)
	one(t, "twice, one written", with(0, w(1, 1), r(1, 1), w(5, 0)), false)
	one(t, "notes", with(5, w(5, 5), w(6, 0)), true)
}

// 10.1: Check, of how many accesses an event says that it has, and of those behind them.
func TestCheckTouches(t *testing.T) {
	x := event(0, r(1, 0))
	for _, n := range append([]int{0, 7}, far...) {
		y := x
		y.Touches = n
		one(t, "touches", y, false)
	}
	y := x
	y.Touches = 1
	one(t, "itself behind the last one", y, false)
	y.Touches = 3
	one(t, "a zero one", y, false)
	for i := 2; i < 6; i++ {
		for _, a := range []api.Access{{Kind: 1}, {Num: 1}, {Write: true}, w(6, 0), {Kind: -1}} {
			y := x
			y.Touch[i] = a
			one(t, "something behind the last one", y, false)
		}
	}
	for _, y := range []api.Event{{Touches: 6}, {Touches: 1}, {Go: 3, Touches: 1, Touch: [6]api.Access{w(5, 3), w(6, 0)}}} {
		one(t, "not as it says", y, false)
	}
}

// 10.1: Check, of kinds and of the numbers of each.
func TestCheckRanges(t *testing.T) {
	many := map[int]int{api.ObVar: 8, api.ObLock: 4, api.ObChan: 4, api.ObGos: 1, api.ObGo: 6, api.ObNotes: 1}
	put := func(a api.Access) api.Event {
		l := []api.Access{a, w(5, 5)}
		if a.Kind > 5 {
			l[0], l[1] = l[1], l[0]
		}
		x := api.Event{Go: 5, Touches: 2}
		copy(x.Touch[:], l)
		return x
	}
	for kind := -2; kind < 10; kind++ {
		for num := -2; num < 10; num++ {
			if kind == api.ObGo && num == 5 {
				continue
			}
			for _, write := range []bool{false, true} {
				one(t, "an object", put(api.Access{Kind: kind, Num: num, Write: write}), num >= 0 && num < many[kind])
			}
		}
		for _, n := range far {
			one(t, "a far number", put(w(kind, n)), false)
		}
	}
	for _, n := range far {
		one(t, "a far kind", put(w(n, 0)), false)
		one(t, "a far goroutine", event(n), false)
		x := event(0)
		x.Go = n
		one(t, "a far Go", x, false)
	}
}

// 10.1: all other fields are as they like.
func TestCheckOthers(t *testing.T) {
	for _, n := range far {
		x := event(2, w(2, 0))
		x.Func, x.PC, x.Op, x.Alt, x.Val, x.Tag = n, n, api.Op(n), n, int64(n), int64(n)
		one(t, "other fields", x, true)
	}
}

// 10.1: at most MaxSteps events; too many are told ahead of what is no trace.
func TestCheckLong(t *testing.T) {
	checked(t, "none", nil, api.OK)
	checked(t, "none", []api.Event{}, api.OK)
	full := slices.Repeat([]api.Event{event(1)}, api.MaxSteps)
	checked(t, "the most", full, api.OK)
	checked(t, "one more", append(slices.Clone(full), event(1)), api.ErrLong)
	checked(t, "one more, no trace", make([]api.Event, api.MaxSteps+1), api.ErrLong)
	checked(t, "far more", make([]api.Event, 1<<18), api.ErrLong)
	full[api.MaxSteps-1].Touches = 0
	checked(t, "the last one is wrong", full, api.ErrTrace)
}

// 10.1: events of runs are a trace, and so are the sampled ones; without one of their accesses, or with one turned,
// they are told as the words tell them.
func TestCheckTraces(t *testing.T) {
	for _, l := range traces(t, 80) {
		checked(t, "a trace", l, api.OK)
	}
	for seed := range uint64(200) {
		x := sample.Trace(seed, 1)[0]
		n := x.Touches
		for i := range n {
			y := x
			copy(y.Touch[i:], x.Touch[i+1:])
			y.Touch[5] = api.Access{}
			y.Touches--
			one(t, "one left out", y, x.Touch[i] != w(api.ObGo, x.Go))
			y = x
			y.Touch[i].Write = !y.Touch[i].Write
			one(t, "one turned", y, x.Touch[i] != w(api.ObGo, x.Go))
			if i > 0 {
				y = x
				y.Touch[i], y.Touch[i-1] = y.Touch[i-1], y.Touch[i]
				one(t, "two changed about", y, false)
			}
		}
	}
}
