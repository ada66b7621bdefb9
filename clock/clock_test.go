package clock_test

import (
	"math"
	"slices"
	"testing"

	"scarab/api"
	"scarab/clock"
)

// 11.1: MaxTime is what the chapter says, and clocks are right up to it.
func TestCheck(t *testing.T) {
	if clock.MaxTime != 1<<30 {
		t.Errorf("MaxTime is %d", clock.MaxTime)
	}
	for g := range api.MaxGos {
		for _, n := range []int{0, 1, 255, clock.MaxTime - 1, clock.MaxTime} {
			a := api.Clock{1, 2, 3, 4, 5, 6}
			a[g] = n
			if e := clock.Check(a); e != api.OK {
				t.Errorf("%v: %v", a, e)
			}
		}
		for _, n := range wrong {
			a := api.Clock{1, 2, 3, 4, 5, 6}
			a[g] = n
			if e := clock.Check(a); e != api.ErrArg {
				t.Errorf("%v: %v", a, e)
			}
		}
	}
}

// 11.1: every call tells of each clock that it is given that it is wrong, and nothing else.
func TestWrongClocks(t *testing.T) {
	right, none := api.Clock{1, 2, 3, 4, 5, 6}, api.Clock{}
	for g := range api.MaxGos {
		for _, n := range wrong {
			a := right
			a[g] = n
			for _, pair := range [][2]api.Clock{{a, right}, {right, a}, {a, a}} {
				if c, e := clock.Join(pair[0], pair[1]); c != none || e != api.ErrArg {
					t.Errorf("Join of %v: %v %v", pair, c, e)
				}
				if c, e := clock.Meet(pair[0], pair[1]); c != none || e != api.ErrArg {
					t.Errorf("Meet of %v: %v %v", pair, c, e)
				}
				if k, e := clock.Cmp(pair[0], pair[1]); k != 0 || e != api.ErrArg {
					t.Errorf("Cmp of %v: %v %v", pair, k, e)
				}
			}
			for _, k := range []int{0, g, 5, -1, 6} {
				if c, e := clock.Tick(a, k); c != none || e != api.ErrArg {
					t.Errorf("Tick of %v at %d: %v %v", a, k, c, e)
				}
			}
			if s, e := clock.Text(a); s != "" || e != api.ErrArg {
				t.Errorf("Text of %v: %q %v", a, s, e)
			}
			for at := range 3 {
				l := []api.Clock{right, right, right}
				l[at] = a
				list(t, "a wrong clock", l, api.ErrArg)
			}
		}
	}
}

// list asks that both calls that take a list tell an error, and nothing else.
func list(t *testing.T, what string, l []api.Clock, want api.Errno) {
	t.Helper()
	if c, e := clock.Joined(l); c != (api.Clock{}) || e != want {
		t.Errorf("Joined of %s: %v %v", what, c, e)
	}
	if at, e := clock.Tops(l); len(at) > 0 || e != want {
		t.Errorf("Tops of %s: %v %v", what, at, e)
	}
}

// 11.1: a list has at most MaxSteps clocks; too many are told ahead of one that is wrong.
func TestLongLists(t *testing.T) {
	l := slices.Repeat([]api.Clock{{1, 2}}, api.MaxSteps)
	if c, e := clock.Joined(l); c != l[0] || e != api.OK {
		t.Errorf("Joined of the most: %v %v", c, e)
	}
	if at, e := clock.Tops(l); !slices.Equal(at, []int{0}) || e != api.OK {
		t.Errorf("Tops of the most: %v %v", at, e)
	}
	list(t, "one more", append(slices.Clone(l), api.Clock{}), api.ErrLong)
	list(t, "one more, wrong ones", slices.Repeat([]api.Clock{{-1}}, api.MaxSteps+1), api.ErrLong)
	list(t, "far more", make([]api.Clock, 1<<18), api.ErrLong)
	l[api.MaxSteps-1][5] = -1
	list(t, "the last one wrong", l, api.ErrArg)
}

// 11.2: the chapter's example 1.
func TestExample(t *testing.T) {
	a, b := api.Clock{1, 0, 2, 0, 0, 0}, api.Clock{0, 3, 1, 0, 0, 0}
	if c := joined(t, a, b); c != (api.Clock{1, 3, 2, 0, 0, 0}) {
		t.Errorf("Join: %v", c)
	}
	if c := met(t, a, b); c != (api.Clock{0, 0, 1, 0, 0, 0}) {
		t.Errorf("Meet: %v", c)
	}
	if n := compared(t, a, b); n != 2 {
		t.Errorf("Cmp: %v", n)
	}
	if c, e := clock.Tick(api.Clock{}, 0); c != (api.Clock{1, 0, 0, 0, 0, 0}) || e != api.OK {
		t.Errorf("Tick: %v %v", c, e)
	}
}

// 11.2: Join and Meet, place by place; Cmp by the words.
func TestTwo(t *testing.T) {
	var told [4]int
	for seed := range uint64(40) {
		l := append(sampled(seed, 30), api.Clock{}, api.Clock{clock.MaxTime})
		for _, a := range l {
			for _, b := range l {
				j, m, n := joined(t, a, b), met(t, a, b), compared(t, a, b)
				for g := range a {
					if max(a[g], b[g]) != j[g] || min(a[g], b[g]) != m[g] {
						t.Fatalf("%v, %v: Join %v, Meet %v", a, b, j, m)
					}
				}
				want := 2
				switch {
				case same(a, b):
					want = 0
				case notAbove(a, b):
					want = -1
				case notAbove(b, a):
					want = 1
				}
				told[want+1]++
				if n != want {
					t.Fatalf("Cmp of %v and %v: %d, not %d", a, b, n, want)
				}
			}
		}
	}
	if slices.Min(told[:]) < 500 {
		t.Errorf("told %v", told)
	}
}

// 11.2: Cmp of clocks that differ at one place, and at two.
func TestCmpPlaces(t *testing.T) {
	base := api.Clock{3, 3, 3, 3, 3, 3}
	for g := range api.MaxGos {
		a := base
		a[g]++
		if compared(t, a, base) != 1 || compared(t, base, a) != -1 || compared(t, a, a) != 0 {
			t.Errorf("at %d: %v and %v", g, a, base)
		}
		for h := range api.MaxGos {
			b := base
			b[h]++
			if n := compared(t, a, b); n != 2 && g != h || n != 0 && g == h {
				t.Errorf("%v and %v: %d", a, b, n)
			}
		}
	}
}

// 11.2: Tick, at each place, and what is wrong with it, in its order.
func TestTick(t *testing.T) {
	none := api.Clock{}
	for _, a := range sampled(7, 200) {
		for g := range api.MaxGos {
			want, e := a, api.OK
			want[g]++
			if a[g] == clock.MaxTime {
				want, e = none, api.ErrLong
			}
			if c, got := clock.Tick(a, g); c != want || got != e {
				t.Errorf("Tick of %v at %d: %v %v", a, g, c, got)
			}
		}
	}
	full := api.Clock{clock.MaxTime, clock.MaxTime, clock.MaxTime, clock.MaxTime, clock.MaxTime, clock.MaxTime}
	for _, g := range []int{math.MinInt, -1, 6, 7, 1 << 32, math.MaxInt} {
		for _, a := range []api.Clock{none, full, {-1}} {
			if c, e := clock.Tick(a, g); c != none || e != api.ErrArg {
				t.Errorf("Tick of %v at %d: %v %v", a, g, c, e)
			}
		}
	}
	if c, e := clock.Tick(api.Clock{clock.MaxTime, -1}, 0); c != none || e != api.ErrArg {
		t.Errorf("Tick of a full one that is wrong: %v %v", c, e)
	}
	if c, e := clock.Tick(api.Clock{clock.MaxTime - 1}, 0); c != (api.Clock{clock.MaxTime}) || e != api.OK {
		t.Errorf("Tick of the last one but one: %v %v", c, e)
	}
}

// 11.3: Joined of none, of one, of more.
func TestJoined(t *testing.T) {
	for _, l := range [][]api.Clock{nil, {}, {{}}} {
		if c, e := clock.Joined(l); c != (api.Clock{}) || e != api.OK {
			t.Errorf("%v: %v %v", l, c, e)
		}
	}
	for seed := range uint64(100) {
		l := sampled(seed, 1+int(seed))
		var want api.Clock
		for _, a := range l {
			for g := range a {
				want[g] = max(want[g], a[g])
			}
		}
		if c, e := clock.Joined(l); c != want || e != api.OK {
			t.Errorf("%v: %v %v", l, c, e)
		}
	}
}

// topped are Tops by the chapter's words.
func topped(l []api.Clock) []int {
	var at []int
	for i, a := range l {
		is := true
		for k, b := range l {
			if notAbove(a, b) && !same(a, b) || k < i && same(a, b) {
				is = false
			}
		}
		if is {
			at = append(at, i)
		}
	}
	return at
}

// 11.3: the chapter's example 2, and Tops of few, of the same ones, of ones aside.
func TestTops(t *testing.T) {
	a, b, c := api.Clock{1}, api.Clock{2}, api.Clock{0, 1}
	for _, x := range []struct {
		l    []api.Clock
		want []int
	}{
		{nil, nil}, {[]api.Clock{}, nil}, {[]api.Clock{{}}, []int{0}}, {[]api.Clock{{}, {}}, []int{0}},
		{[]api.Clock{a, a, b}, []int{2}}, {[]api.Clock{a, b, a}, []int{1}}, {[]api.Clock{b, a, a}, []int{0}},
		{[]api.Clock{a, c}, []int{0, 1}}, {[]api.Clock{c, a, c, b, b}, []int{0, 3}}, {[]api.Clock{{}, a, c, a, c, {}}, []int{1, 2}},
		{[]api.Clock{{}, a, c, {1, 1}}, []int{3}}, {[]api.Clock{{1, 1}, a, {}, c}, []int{0}},
	} {
		if at, e := clock.Tops(x.l); !slices.Equal(at, x.want) || e != api.OK {
			t.Errorf("%v: %v %v, not %v", x.l, at, e, x.want)
		}
	}
}

// 11.3: Tops of sampled clocks, by the words.
func TestTopsSampled(t *testing.T) {
	many := 0
	for seed := range uint64(150) {
		l := sampled(seed, int(seed)%40)
		for i := range l {
			// a few small numbers at two places: some are the same, some below others.
			if seed%2 == 0 {
				l[i] = api.Clock{l[i][0] % 4, 0, 0, l[i][3] % 4}
			}
		}
		want := topped(l)
		if len(want) > 1 && len(want) < len(l) {
			many++
		}
		if at, e := clock.Tops(l); !slices.Equal(at, want) || e != api.OK {
			t.Errorf("%v: %v %v, not %v", l, at, e, want)
		}
	}
	if many < 50 {
		t.Errorf("only %d lists have some", many)
	}
}
