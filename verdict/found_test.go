package verdict_test

import (
	"math"
	"slices"
	"testing"

	"scarab/api"
	"scarab/verdict"
)

// things are any that may be found: some that a run shows, some that none does, at the ends of all ranges.
func things() []api.Found {
	l := []api.Found{{}, at(api.KindAssert, 0, 2), at(api.KindDeadlock, 0, 1), at(api.KindLeak, 1, 0), fault(1, 0, 2), fault(1, 0, 3), raced(4, 1, 0, 2, 3)}
	for _, n := range append([]int{1, 2}, far...) {
		l = append(l, api.Found{Kind: n}, api.Found{Num: n}, api.Found{Why: n}, api.Found{A: api.Spot{Func: n}},
			api.Found{A: api.Spot{PC: n}}, api.Found{B: api.Spot{Func: n}}, api.Found{B: api.Spot{PC: n}})
	}
	return l
}

// 23.2: by Kind, then Num, then A, then B, then Why: a lesser field ahead outweighs all greater ones behind.
func TestCompare(t *testing.T) {
	// each of them has one field that is greater than the next one's, ahead of fields that are all lesser.
	l := []api.Found{
		{Kind: 2},
		{Kind: 1, Num: 2},
		{Kind: 1, Num: 1, A: api.Spot{Func: 2}},
		{Kind: 1, Num: 1, A: api.Spot{Func: 1, PC: 2}},
		{Kind: 1, Num: 1, A: api.Spot{Func: 1, PC: 1}, B: api.Spot{Func: 2}},
		{Kind: 1, Num: 1, A: api.Spot{Func: 1, PC: 1}, B: api.Spot{Func: 1, PC: 2}},
		{Kind: 1, Num: 1, A: api.Spot{Func: 1, PC: 1}, B: api.Spot{Func: 1, PC: 1}, Why: 2},
		{Kind: 1, Num: 1, A: api.Spot{Func: 1, PC: 1}, B: api.Spot{Func: 1, PC: 1}, Why: 1},
	}
	for i, a := range l {
		for j, b := range l {
			want := min(1, max(-1, j-i))
			if n := verdict.Compare(a, b); n != want {
				t.Errorf("%v, %v: %d, not %d", a, b, n, want)
			}
		}
	}
	if n := verdict.Compare(api.Found{Num: math.MinInt}, api.Found{Num: math.MaxInt}); n != -1 {
		t.Errorf("the least and the greatest number: %d", n)
	}
}

// 23.2, 23.6: Compare is the order of the fields, of any of them; it is an order.
func TestCompareIsAnOrder(t *testing.T) {
	l := things()
	for _, a := range l {
		for _, b := range l {
			n := verdict.Compare(a, b)
			if n != inOrder(a, b) || n != -verdict.Compare(b, a) || (n == 0) != (a == b) {
				t.Errorf("%v, %v: %d", a, b, n)
			}
			for _, c := range l {
				if n <= 0 && verdict.Compare(b, c) <= 0 && verdict.Compare(a, c) > 0 {
					t.Errorf("%v, %v, %v", a, b, c)
				}
			}
		}
	}
}

// 23.4: the chapter's example, each kind, numbers at the ends of their range.
func TestText(t *testing.T) {
	for _, x := range []struct {
		f    api.Found
		want string
	}{
		{raced(4, 1, 0, 2, 3), "race on v4 at f1:0 and f2:3"},
		{at(api.KindAssert, 0, 2), "assert at f0:2"},
		{fault(1, 63, api.WhyZero), "fault 2 at f1:63"},
		{fault(7, 0, api.WhyGos), "fault 8 at f7:0"},
		{at(api.KindDeadlock, 0, 10), "deadlock at f0:10"},
		{at(api.KindLeak, 3, 4), "leak at f3:4"},
		{api.Found{Kind: api.KindAssert}, "assert at f0:0"},
		{api.Found{Kind: api.KindFault}, "fault 0 at f0:0"},
		{api.Found{Kind: api.KindRace}, "race on v0 at f0:0 and f0:0"},
		{raced(-1, -2, math.MinInt, math.MaxInt, -10), "race on v-1 at f-2:-9223372036854775808 and f9223372036854775807:-10"},
		{fault(-3, 100, math.MinInt), "fault -9223372036854775808 at f-3:100"},
	} {
		if s, e := verdict.Text(x.f); s != x.want || e != api.OK {
			t.Errorf("%v: %q %v, not %q", x.f, s, e, x.want)
		}
	}
}

// 23.4: fields that a kind has not are not told.
func TestTextOfOtherFields(t *testing.T) {
	for kind, want := range map[int]string{
		api.KindAssert:   "assert at f1:2",
		api.KindFault:    "fault 6 at f1:2",
		api.KindDeadlock: "deadlock at f1:2",
		api.KindLeak:     "leak at f1:2",
		api.KindRace:     "race on v5 at f1:2 and f3:4",
	} {
		f := api.Found{Kind: kind, A: api.Spot{Func: 1, PC: 2}, B: api.Spot{Func: 3, PC: 4}, Num: 5, Why: 6}
		if s, e := verdict.Text(f); s != want || e != api.OK {
			t.Errorf("%v: %q %v, not %q", f, s, e, want)
		}
	}
}

// 23.4: what is none of the five kinds.
func TestTextOfNone(t *testing.T) {
	for _, kind := range append([]int{0, 6, 7, 255, 256, 257}, far...) {
		f := api.Found{Kind: kind, A: api.Spot{Func: 1, PC: 2}, Num: 5, Why: 6}
		if s, e := verdict.Text(f); s != "" || e != api.ErrArg {
			t.Errorf("%d: %q %v", kind, s, e)
		}
	}
	kinds := []int{api.KindAssert, api.KindFault, api.KindDeadlock, api.KindLeak, api.KindRace}
	for _, f := range things() {
		s, e := verdict.Text(f)
		if is := slices.Contains(kinds, f.Kind); is != (e == api.OK) || is != (s != "") {
			t.Errorf("%v: %q %v", f, s, e)
		}
	}
}
