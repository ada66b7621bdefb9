package linear_test

import (
	"slices"
	"testing"

	"scarab/api"
	"scarab/linear"
)

// checked asks what Check tells of a history, and that those who are given a wrong one tell the same, and nothing else.
func checked(t *testing.T, what string, kind int, h []api.Call, ok bool) {
	t.Helper()
	if e := linear.Check(kind, h); ok && e != api.OK || !ok && e != api.ErrHist {
		t.Errorf("%s: %v of kind %d: %v", what, e, kind, h)
	}
	first := make([]int, len(h))
	for i := range first {
		first[i] = i
	}
	for _, order := range [][]int{first, nil, {-1}} {
		a, is, e1 := linear.Linear(kind, h)
		b, turns, e2 := linear.Turns(kind, h)
		fits, time, turn, e3 := linear.Fits(kind, h, order)
		last, e4 := linear.Last(kind, h, order)
		if ok {
			if e1 == api.ErrHist || e2 == api.ErrHist || e3 == api.ErrHist || e4 == api.ErrHist {
				t.Errorf("%s: %v %v %v %v", what, e1, e2, e3, e4)
			}
			continue
		}
		for k, e := range []api.Errno{e1, e2, e3, e4} {
			if e != api.ErrHist {
				t.Errorf("%s: call %d tells %v", what, k, e)
			}
		}
		if is || turns || fits || time || turn || len(a)+len(b)+len(last) > 0 {
			t.Errorf("%s: %v %v, %v %v, %v %v %v, %v beside an error", what, a, is, b, turns, fits, time, turn, last)
		}
	}
}

// 26.1: kinds, and what may be done to each.
func TestCheckKinds(t *testing.T) {
	for kind := -2; kind < 8; kind++ {
		checked(t, "nothing", kind, nil, kind >= 1 && kind <= 4)
		checked(t, "nothing", kind, []api.Call{}, kind >= 1 && kind <= 4)
		for do := -2; do < 9; do++ {
			c := api.Call{Do: do, Begin: 1, End: 2}
			checked(t, "one operation", kind, []api.Call{c}, slices.Contains(dos(kind), do))
			if kind >= 1 && kind <= 4 {
				checked(t, "behind another one", kind, []api.Call{{Do: dos(kind)[1], Begin: 5, End: 7}, c}, slices.Contains(dos(kind), do))
			}
		}
		for _, n := range far {
			checked(t, "a far Do", kind, []api.Call{{Do: n, Begin: 1, End: 2}}, false)
			checked(t, "a far kind", n, []api.Call{{Do: api.DoRead, Begin: 1, End: 2}}, false)
		}
	}
}

// 26.1: at most MaxCalls operations.
func TestCheckMany(t *testing.T) {
	for _, kind := range kinds {
		h := full(kind)
		checked(t, "the most", kind, h, true)
		checked(t, "one more", kind, append(slices.Clone(h), api.Call{Do: dos(kind)[0], Begin: 100, End: 101}), false)
		checked(t, "far more", kind, make([]api.Call, 1<<16), false)
	}
}

// 26.1: goroutines and moments.
func TestCheckRanges(t *testing.T) {
	const most = linear.MaxMoment
	one := func(what string, g, begin, end int, ok bool) {
		t.Helper()
		checked(t, what, api.KindRegister, []api.Call{read(g, 0, begin, end)}, ok)
		checked(t, what+", of two", api.KindRegister, []api.Call{write(4, 2, 10, 20), read(g, 0, begin, end)}, ok)
		checked(t, what+", ahead of one", api.KindRegister, []api.Call{read(g, 0, begin, end), write(4, 2, 10, 20)}, ok)
	}
	for g := -2; g < 9; g++ {
		one("a goroutine", g, 30, 31, g >= 0 && g < api.MaxGos)
	}
	one("the first moment", 0, 0, 1, true)
	one("the last moment", 0, most-1, most, true)
	one("all moments", 0, 0, most, true)
	one("pending from the first moment on", 0, 0, -1, true)
	one("pending from the last moment on", 0, most, -1, true)
	one("no time", 0, 3, 3, false)
	one("no time at the first moment", 0, 0, 0, false)
	one("no time at the last moment", 0, most, most, false)
	one("back", 0, 3, 2, false)
	one("begins too early", 0, -1, 3, false)
	one("pending, begins too early", 0, -1, -1, false)
	one("begins too late", 0, most+1, most+2, false)
	one("pending, begins too late", 0, most+1, -1, false)
	one("ends too late", 0, 3, most+1, false)
	one("ends before all", 0, 3, -2, false)
	for _, n := range far {
		one("a far goroutine", n, 30, 31, false)
		one("a far begin", 0, n, 5, false)
		one("a far begin, pending", 0, n, -1, false)
		one("a far end", 0, 5, n, false)
	}
}

// 26.1: no two moments are the same; no two operations of one goroutine run at one time.
func TestCheckTogether(t *testing.T) {
	two := func(what string, a, b api.Call, ok bool) {
		t.Helper()
		third := read(5, 0, 900, 901)
		checked(t, what, api.KindRegister, []api.Call{a, b}, ok)
		checked(t, what+", turned", api.KindRegister, []api.Call{b, a}, ok)
		checked(t, what+", with one between", api.KindRegister, []api.Call{a, third, b}, ok)
	}
	two("one behind the other", read(0, 0, 1, 2), read(0, 0, 3, 4), true)
	two("two goroutines at one time", read(0, 0, 1, 3), read(1, 0, 2, 4), true)
	two("one goroutine at one time", read(0, 0, 1, 3), read(0, 0, 2, 4), false)
	two("one goroutine, one within", read(0, 0, 1, 4), read(0, 0, 2, 3), false)
	two("two goroutines, one within", read(0, 0, 1, 4), read(1, 0, 2, 3), true)
	two("begin as begin", read(0, 0, 1, 3), read(1, 0, 1, 4), false)
	two("end as end", read(0, 0, 1, 4), read(1, 0, 2, 4), false)
	two("end as begin", read(0, 0, 1, 2), read(1, 0, 2, 4), false)
	two("end as begin, of one goroutine", read(0, 0, 1, 2), read(0, 0, 2, 4), false)
	two("both pending, of two goroutines", read(0, 0, 1, -1), read(1, 0, 2, -1), true)
	two("both pending, begin as begin", read(0, 0, 1, -1), read(1, 0, 1, -1), false)
	two("both pending, of one goroutine", read(0, 0, 1, -1), read(0, 0, 2, -1), false)
	two("the last one pending", read(0, 0, 1, 2), read(0, 0, 3, -1), true)
	two("the first one pending", read(0, 0, 1, -1), read(0, 0, 3, 4), false)
	two("one pending within the other", read(0, 0, 1, 3), read(0, 0, 2, -1), false)
	two("the first one pending, of two goroutines", read(0, 0, 1, -1), read(1, 0, 3, 4), true)
	two("pending from an end on", read(0, 0, 1, 3), read(1, 0, 3, -1), false)
}

// 26.1: what goes in and comes out.
func TestCheckValues(t *testing.T) {
	one := func(what string, kind int, c api.Call, ok bool) {
		t.Helper()
		c.Begin, c.End = 3, 9
		checked(t, what, kind, []api.Call{c}, ok)
		checked(t, what+", behind one", kind, []api.Call{{Go: 1, Do: dos(kind)[0], Begin: 1, End: 5}, c}, ok)
		c.End = -1
		checked(t, what+", pending", kind, []api.Call{c}, ok && c.Out == 0 && !c.Empty)
	}
	for _, kind := range kinds {
		for _, do := range dos(kind) {
			in, out := do != api.DoRead && do != api.DoTake, do == api.DoRead || do == api.DoTake
			for _, n := range []int64{1, -1, 1 << 62, -1 << 63} {
				one("In", kind, api.Call{Do: do, In: n}, in)
				one("Out", kind, api.Call{Do: do, Out: n}, out)
				one("In and Out", kind, api.Call{Do: do, In: n, Out: n}, false)
				one("Out and Empty", kind, api.Call{Do: do, Out: n, Empty: true}, false)
				one("In and Empty", kind, api.Call{Do: do, In: n, Empty: true}, false)
			}
			one("nothing", kind, api.Call{Do: do}, true)
			one("Empty", kind, api.Call{Do: do, Empty: true}, do == api.DoTake)
		}
	}
}

// isRight tells whether a history is right, by the words of the chapter, one by one.
func isRight(kind int, h []api.Call) bool {
	if kind < 1 || kind > 4 || len(h) > 8 {
		return false
	}
	seen := map[int]int{}
	for i, c := range h {
		pending := c.End == -1
		seen[c.Begin]++
		if !pending {
			seen[c.End]++
		}
		ok := c.Go >= 0 && c.Go <= 5 && slices.Contains(dos(kind), c.Do) && c.Begin >= 0 && c.Begin <= 1000000
		ok = ok && (pending || c.End > c.Begin && c.End <= 1000000)
		ok = ok && (c.In == 0 || c.Do == api.DoWrite || c.Do == api.DoAdd || c.Do == api.DoPut)
		ok = ok && (c.Out == 0 || c.Do == api.DoRead || c.Do == api.DoTake && !c.Empty)
		ok = ok && (!c.Empty || c.Do == api.DoTake) && (!pending || c.Out == 0 && !c.Empty)
		for j, d := range h {
			ok = ok && (i == j || c.Go != d.Go || c.End != -1 && c.End < d.Begin || d.End != -1 && d.End < c.Begin)
		}
		if !ok {
			return false
		}
	}
	for _, n := range seen {
		if n > 1 {
			return false
		}
	}
	return true
}

// 26.1: histories of which a few things are turned are told as the words tell them; other kinds too.
func TestCheckWords(t *testing.T) {
	var told [2]int
	seed := uint64(0)
	histories(400, linear.MaxCalls, func(kind int, h []api.Call) {
		seed++
		draw := draws(seed + 77)
		checked(t, "a history", kind, h, true)
		for other := range 6 {
			checked(t, "of any kind", other, h, isRight(other, h))
		}
		for range 4 {
			x := slices.Clone(h)
			for range 1 + draw(2) {
				if len(x) > 0 {
					turn(draw, &x[draw(len(x))])
				}
			}
			is := isRight(kind, x)
			checked(t, "turned", kind, x, is)
			if is {
				told[1]++
			} else {
				told[0]++
			}
		}
	})
	if min(told[0], told[1]) < 1000 {
		t.Errorf("told %v", told)
	}
}

// turn makes something of an operation another one.
func turn(draw func(int) int, c *api.Call) {
	switch draw(8) {
	case 0:
		c.Go = draw(8) - 1
	case 1:
		c.Do = draw(7)
	case 2:
		c.In = int64(draw(3) - 1)
	case 3:
		c.Out = int64(draw(3) - 1)
	case 4:
		c.Empty = !c.Empty
	case 5:
		c.Begin = draw(20) - 1
	case 6:
		c.End = draw(20) - 1
	case 7:
		c.End = -1
	}
}
