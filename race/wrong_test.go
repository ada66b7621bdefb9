package race_test

import (
	"math"
	"slices"
	"testing"

	"scarab/api"
	"scarab/prog"
	"scarab/race"
	"scarab/sample"
)

// refused asks that all calls that take a program tell an error, and nothing else.
func refused(t *testing.T, what string, p api.Prog, l []api.Event, want api.Errno) {
	t.Helper()
	data, e1 := race.Data(p, l)
	found, e2 := race.Races(p, l)
	conflicts, e3 := race.Conflicts(p, l)
	guards, e4 := race.Guards(p, l)
	suspects, e5 := race.Suspects(p, l)
	if len(data)+len(found)+len(conflicts)+len(guards)+len(suspects) > 0 {
		t.Errorf("%s: %v %v %v %v %v", what, data, found, conflicts, guards, suspects)
	}
	for n, e := range []api.Errno{e1, e2, e3, e4, e5} {
		if e != want {
			t.Errorf("%s: call %d tells %v, not %v", what, n, e, want)
		}
	}
}

// misplaced asks that all calls that take a trace first tell an error, and nothing else.
func misplaced(t *testing.T, what string, l []api.Event, i, j int, want api.Errno) {
	t.Helper()
	is, e1 := race.Clocked(l, i, j)
	way, side, e2 := race.Beside(l, i, j)
	if is || side || len(way) > 0 || e1 != want || e2 != want {
		t.Errorf("%s: Clocked %v %v, Beside %v %v %v, not %v", what, is, e1, way, side, e2, want)
	}
}

// 14.1 to 14.4: a wrong program is told first, then a wrong trace, then wrong places.
func TestWrong(t *testing.T) {
	good := []api.Event{store(1, 0), store(2, 0)}
	many := slices.Repeat(good[:1], api.MaxSteps+1)
	bad := func(l []api.Event) []api.Event {
		l = slices.Clone(l)
		l[len(l)-1].Touches = 0
		return l
	}
	// what is wrong with a plain variable's access is not overlooked
	twice := api.Event{Go: 1, Touches: 3, Touch: [6]api.Access{w(1, 0), w(1, 0), w(5, 1)}}
	turned := api.Event{Go: 1, Touches: 3, Touch: [6]api.Access{w(1, 1), w(1, 0), w(5, 1)}}
	for _, x := range []struct {
		what string
		l    []api.Event
		want api.Errno
	}{
		{"one more", many, api.ErrLong}, {"one more, the last one wrong", bad(many), api.ErrLong},
		{"far more", make([]api.Event, 1<<14), api.ErrLong}, {"the last one wrong", bad(many[1:]), api.ErrTrace},
		{"nothing touched", []api.Event{{}}, api.ErrTrace}, {"no goroutine", []api.Event{event(6), event(0)}, api.ErrTrace},
		{"another one's", []api.Event{{Touches: 1, Touch: [6]api.Access{w(5, 1)}}}, api.ErrTrace},
		{"no variable", []api.Event{good[0], store(1, 8)}, api.ErrTrace}, {"below all variables", []api.Event{store(1, -1)}, api.ErrTrace},
		{"a variable twice", []api.Event{twice, good[0]}, api.ErrTrace}, {"variables turned", []api.Event{good[0], turned}, api.ErrTrace},
	} {
		refused(t, x.what, vars(false, false), x.l, x.want)
		refused(t, x.what+", a wrong program", api.Prog{}, x.l, api.ErrProg)
		misplaced(t, x.what, x.l, 0, 0, x.want)
		misplaced(t, x.what+", places that are none", x.l, -1, math.MaxInt, x.want)
		if pairs, e := race.Pairs(x.l); len(pairs) > 0 || e != x.want {
			t.Errorf("%s: Pairs: %v %v", x.what, pairs, e)
		}
	}
	for _, p := range []api.Prog{{}, {Vars: make([]api.Var, 9), Funcs: vars().Funcs}, {Locks: -1, Funcs: vars().Funcs}, {Funcs: make([]api.Func, 1)}, {Vars: make([]api.Var, 1<<16)}} {
		for _, l := range [][]api.Event{nil, good, bad(good)} {
			refused(t, "a wrong program", p, l, api.ErrProg)
		}
	}
}

// 14.2, 14.3: places that are none.
func TestWrongPlaces(t *testing.T) {
	l := []api.Event{store(1, 0), store(2, 0), load(3, 0)}
	for _, i := range []int{math.MinInt, -1, 3, 4, api.MaxSteps, 1 << 32, math.MaxInt} {
		for j := range l {
			misplaced(t, "the first place", l, i, j, api.ErrArg)
			misplaced(t, "the second place", l, j, i, api.ErrArg)
		}
		misplaced(t, "both places", l, i, i, api.ErrArg)
		misplaced(t, "of none", nil, i, i, api.ErrArg)
	}
	misplaced(t, "of none", nil, 0, 0, api.ErrArg)
	for i := range l {
		for j := range i + 1 {
			misplaced(t, "not rising", l, i, j, api.OK)
		}
	}
}

// P1: calls with any events, places and programs end without a panic.
func TestAnything(t *testing.T) {
	for seed := range uint64(200) {
		n := sample.Choices(seed, 40)
		x := api.Event{Go: n[0], Touches: n[1]}
		for i := range x.Touch {
			x.Touch[i] = api.Access{Kind: n[2+i], Num: n[8+i], Write: n[14+i]%2 == 0}
		}
		for _, l := range [][]api.Event{{event(0), x}, mixed(seed, 5), sample.Trace(seed, 6), nil} {
			race.Pairs(l)
			race.Clocked(l, n[20], n[21])
			race.Beside(l, n[20], n[21])
			for _, p := range []api.Prog{sample.Prog(seed), {}, {Locks: n[22], Funcs: make([]api.Func, 2)}} {
				race.Data(p, l)
				race.Races(p, l)
				race.Conflicts(p, l)
				race.Guards(p, l)
				race.Suspects(p, l)
			}
		}
	}
}

// answers are all lists that the calls tell of a play.
type answers struct {
	pairs, data, conflicts [][2]int
	found                  []api.Found
	way, suspects          []int
	guards                 [][]int
}

// ask calls all.
func ask(p api.Prog, l []api.Event) answers {
	var a answers
	a.pairs, _ = race.Pairs(l)
	a.data, _ = race.Data(p, l)
	a.conflicts, _ = race.Conflicts(p, l)
	a.found, _ = race.Races(p, l)
	a.way, _, _ = race.Beside(l, 0, 1)
	a.suspects, _ = race.Suspects(p, l)
	a.guards, _ = race.Guards(p, l)
	race.Clocked(l, 0, 1)
	return a
}

// equal tells whether answers are the same.
func (a answers) equal(b answers) bool {
	return slices.Equal(a.pairs, b.pairs) && slices.Equal(a.data, b.data) && slices.Equal(a.conflicts, b.conflicts) && slices.Equal(a.found, b.found) &&
		slices.Equal(a.way, b.way) && slices.Equal(a.suspects, b.suspects) && slices.EqualFunc(a.guards, b.guards, slices.Equal)
}

// R3, R6: events and programs stay as they are, spare room too; answers are new memory, each list of guards too; the
// same call tells the same.
func TestMemory(t *testing.T) {
	odd := api.Event{Go: -7}
	for _, x := range plays(t, 30) {
		p, l := prog.Copy(x.p), append(slices.Clone(x.t), odd, odd)[:len(x.t)]
		got, want := ask(p, l), ask(p, l)
		if !got.equal(want) {
			t.Error("not told the same twice")
		}
		for v := range got.guards {
			spoil(got.guards[v], -7)
			if !slices.EqualFunc(got.guards[v+1:], want.guards[v+1:], slices.Equal) {
				t.Error("guards share memory")
			}
		}
		spoil(got.pairs, [2]int{-7, -7})
		spoil(got.data, [2]int{-7, -7})
		spoil(got.conflicts, [2]int{-7, -7})
		spoil(got.found, api.Found{Kind: -7})
		spoil(got.way, -7)
		spoil(got.suspects, -7)
		spoil(got.guards, nil)
		if !ask(p, l).equal(want) {
			t.Error("an answer is kept")
		}
		if !slices.Equal(l, x.t) || l[:len(l)+2][len(l)] != odd || l[:len(l)+2][len(l)+1] != odd || !prog.Same(p, x.p) {
			t.Error("a call changes its arguments")
		}
	}
}
