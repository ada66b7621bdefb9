package canon_test

import (
	"fmt"
	"math"
	"slices"
	"testing"

	"scarab/api"
	"scarab/canon"
	"scarab/sample"
)

// same asks for what Same tells, either way round, and that the keys are the same just then.
func same(t *testing.T, what string, a, b []api.Event, want bool) {
	t.Helper()
	one, e1 := canon.Same(a, b)
	two, e2 := canon.Same(b, a)
	if one != want || two != want || e1 != api.OK || e2 != api.OK {
		t.Errorf("%s: Same: %v %v, %v %v, not %v", what, one, e1, two, e2, want)
	}
	x, e1 := canon.Key(a)
	y, e2 := canon.Key(b)
	if (x == y) != want || e1 != api.OK || e2 != api.OK {
		t.Errorf("%s: Key: %q %v, %q %v", what, x, e1, y, e2)
	}
}

// 13.3: the chapter's traces, and such as are not as long.
func TestSame(t *testing.T) {
	turned := func(l []api.Event) []api.Event {
		l = slices.Clone(l)
		slices.Reverse(l)
		return l
	}
	same(t, "apart", apart, turned(apart), true)
	same(t, "chained", chained, turned(chained), false)
	same(t, "none", nil, []api.Event{}, true)
	same(t, "one of none", nil, apart[:1], false)
	same(t, "the front", net, net[:7], false)
	same(t, "the back", net, net[1:], false)
	same(t, "twice", []api.Event{event(0), event(1)}, []api.Event{event(0), event(0)}, false)
	same(t, "once more", []api.Event{event(0), event(0)}, []api.Event{event(0), event(0), event(0)}, false)
	same(t, "net", net, in(net, []int{5, 0, 2, 1, 7, 3, 6, 4}), true)
	same(t, "net, two that depend", net, in(net, []int{0, 1, 3, 2, 6, 4, 5, 7}), true)
	same(t, "net, the load first", net, in(net, []int{1, 0, 2, 3, 4, 5, 6, 7}), false)
}

// 13.3: what an event says are all of its fields.
func TestSameFields(t *testing.T) {
	base := event(2, r(1, 3), w(2, 1))
	base.Func, base.PC, base.Op, base.Alt, base.Val, base.Tag = 1, 2, 3, 4, 5, 6
	change := map[string]func(x *api.Event){
		"Go":      func(x *api.Event) { x.Go, x.Touch[2].Num = 3, 3 },
		"Func":    func(x *api.Event) { x.Func-- },
		"PC":      func(x *api.Event) { x.PC = -2 },
		"Op":      func(x *api.Event) { x.Op++ },
		"Alt":     func(x *api.Event) { x.Alt = 0 },
		"Val":     func(x *api.Event) { x.Val = math.MinInt64 },
		"Tag":     func(x *api.Event) { x.Tag = -6 },
		"Kind":    func(x *api.Event) { x.Touch[1].Kind = api.ObChan },
		"Num":     func(x *api.Event) { x.Touch[0].Num++ },
		"Write":   func(x *api.Event) { x.Touch[0].Write = true },
		"Read":    func(x *api.Event) { x.Touch[1].Write = false },
		"Touches": func(x *api.Event) { *x = event(2, r(1, 3)); x.Func, x.PC, x.Op, x.Alt, x.Val, x.Tag = 1, 2, 3, 4, 5, 6 },
		"one more": func(x *api.Event) {
			*x = event(2, r(1, 3), w(2, 1), r(4, 0))
			x.Func, x.PC, x.Op, x.Alt, x.Val, x.Tag = 1, 2, 3, 4, 5, 6
		},
		"changed about": func(x *api.Event) { x.Val, x.Tag = x.Tag, x.Val },
	}
	for what, f := range change {
		x := base
		f(&x)
		same(t, what, []api.Event{base}, []api.Event{x}, false)
		same(t, what, []api.Event{x}, []api.Event{x}, true)
		same(t, what+" among others", []api.Event{event(0), base, event(4)}, []api.Event{event(0), x, event(4)}, false)
		same(t, what+" last", []api.Event{event(0), base, base}, []api.Event{event(0), base, x}, false)
	}
}

// 13.3: keys that are written out.
func TestKeyWritten(t *testing.T) {
	least := event(5, r(1, 7), w(2, 3), r(3, 3), w(4, 0))
	least.Func, least.PC, least.Op, least.Alt = math.MinInt, -1, api.Op(-10), math.MaxInt
	least.Val, least.Tag = math.MinInt64, math.MaxInt64
	last := event(0)
	last.Touch[1], last.Touches = w(6, 0), 2
	for _, x := range []struct {
		l    []api.Event
		want string
	}{
		{nil, ""},
		{[]api.Event{}, ""},
		{[]api.Event{event(3)}, "3,0,0,0,0,0,0:5,3,1;"},
		{apart, "0,0,0,0,0,0,0:1,1,0:5,0,1;1,0,0,0,0,0,0:1,0,0:5,1,1;"},
		{chained, "1,0,0,0,0,0,0:1,0,1:5,1,1;0,0,0,0,0,0,0:1,0,1:5,0,1;"},
		{[]api.Event{least, last}, "0,0,0,0,0,0,0:5,0,1:6,0,1;5,-9223372036854775808,-1,-10,9223372036854775807,-9223372036854775808,9223372036854775807:1,7,0:2,3,1:3,3,0:4,0,1:5,5,1;"},
	} {
		if got, e := canon.Key(x.l); got != x.want || e != api.OK {
			t.Errorf("%q %v, not %q", got, e, x.want)
		}
	}
}

// 13.3: Key, by the chapter's words.
func TestKey(t *testing.T) {
	for n, l := range append(traces(t, 60), long()...) {
		form, _ := canon.Form(l)
		want := ""
		for _, i := range form {
			x := l[i]
			want += fmt.Sprintf("%d,%d,%d,%d,%d,%d,%d", x.Go, x.Func, x.PC, x.Op, x.Alt, x.Val, x.Tag)
			for k := range x.Touches {
				write := 0
				if x.Touch[k].Write {
					write = 1
				}
				want += fmt.Sprintf(":%d,%d,%d", x.Touch[k].Kind, x.Touch[k].Num, write)
			}
			want += ";"
		}
		if got, e := canon.Key(l); got != want || e != api.OK {
			t.Errorf("%d: %q %v, not %q", n, got, e, want)
		}
	}
}

// 13.3, 13.5: of each two of many traces Same tells whether their events in canonical order are the same, and so do the
// keys.
func TestSameEach(t *testing.T) {
	var all [][]api.Event
	for seed := range uint64(12) {
		l := sparse(seed, 2+int(seed%4))
		is := happens(l)
		for k := range uint64(6) {
			all = append(all, in(l, drawn(is, k)))
			mixed := first(len(l))
			for _, n := range numbers(seed*100+k, 5) {
				a, b := n%len(l), n/1000%len(l)
				mixed[a], mixed[b] = mixed[b], mixed[a]
			}
			all = append(all, in(l, mixed))
		}
	}
	var told [2]int
	for i, a := range all {
		for j, b := range all {
			x, _ := canon.Form(a)
			y, _ := canon.Form(b)
			want := slices.Equal(in(a, x), in(b, y))
			same(t, fmt.Sprint(i, " and ", j), a, b, want)
			if want {
				told[1]++
			} else {
				told[0]++
			}
		}
	}
	if min(told[0], told[1]) < 1000 {
		t.Errorf("told %v", told)
	}
}

// sampled are short traces of few unlike events, so that some are the same by chance.
func sampled(seed uint64) []api.Event {
	l := sample.Trace(seed, 4)
	for i := range l {
		l[i] = event(l[i].Go%3, api.Access{Kind: api.ObVar, Num: l[i].Touch[0].Num % 2, Write: l[i].Touch[0].Write})
	}
	return l
}

// 13.5: Same goes from one to the next, and is so just if swaps of independent neighbours lead from one to the other.
func TestSameIsEquivalent(t *testing.T) {
	var told [2]int
	for seed := range uint64(60) {
		l := sampled(seed)
		class := map[string]int{fmt.Sprint(l): 1}
		for work := [][]api.Event{l}; len(work) > 0; work = work[1:] {
			for i := 0; i+1 < len(l); i++ {
				if next := slices.Clone(work[0]); !dependent(next[i], next[i+1]) {
					next[i], next[i+1] = next[i+1], next[i]
					if class[fmt.Sprint(next)] == 0 {
						class[fmt.Sprint(next)] = 1
						work = append(work, next)
					}
				}
			}
		}
		orders(first(len(l)), 0, func(way []int) {
			other := in(l, way)
			want := class[fmt.Sprint(other)]
			same(t, fmt.Sprint(seed, way), l, other, want == 1)
			told[want]++
		})
		for k := range uint64(60) {
			other := sampled(k)
			same(t, fmt.Sprint(seed, " and ", k), l, other, class[fmt.Sprint(other)] == 1)
		}
	}
	if min(told[0], told[1]) < 200 {
		t.Errorf("told %v", told)
	}
}
