package race_test

import (
	"cmp"
	"math"
	"slices"
	"testing"

	"scarab/api"
	"scarab/race"
)

// raced asks for the races and data races of a trace.
func raced(t *testing.T, what string, p api.Prog, l []api.Event, pairs, data [][2]int) {
	t.Helper()
	if got, e := race.Pairs(l); !slices.Equal(got, pairs) || e != api.OK {
		t.Errorf("%s: Pairs: %v %v, not %v", what, got, e, pairs)
	}
	if got, e := race.Data(p, l); !slices.Equal(got, data) || e != api.OK {
		t.Errorf("%s: Data: %v %v, not %v", what, got, e, data)
	}
}

// conflicted asks for the conflicts of a trace.
func conflicted(t *testing.T, what string, p api.Prog, l []api.Event, want ...[2]int) {
	t.Helper()
	if got, e := race.Conflicts(p, l); !slices.Equal(got, want) || e != api.OK {
		t.Errorf("%s: Conflicts: %v %v, not %v", what, got, e, want)
	}
}

// 14.1, 14.3, 14.4: the chapter's example 1.
func TestExampleOne(t *testing.T) {
	p := vars(false)
	l := []api.Event{at(store(1, 0), 1, 4), at(store(2, 0), 1, 2)}
	raced(t, "bare", p, l, [][2]int{{0, 1}}, [][2]int{{0, 1}})
	want := []api.Found{{Kind: api.KindRace, A: api.Spot{Func: 1, PC: 2}, B: api.Spot{Func: 1, PC: 4}}}
	if got, e := race.Races(p, l); !slices.Equal(got, want) || e != api.OK {
		t.Errorf("Races: %v %v", got, e)
	}
	if way, is, e := race.Beside(l, 0, 1); !slices.Equal(way, []int{0, 1}) || !is || e != api.OK {
		t.Errorf("Beside: %v %v %v", way, is, e)
	}
	l = []api.Event{lock(1, 2), l[0], unlock(1, 2), lock(2, 2), l[1], unlock(2, 2)}
	raced(t, "with a lock", p, l, [][2]int{{2, 3}}, nil)
	conflicted(t, "with a lock", p, l)
	if got, e := race.Races(p, l); len(got) > 0 || e != api.OK {
		t.Errorf("Races with a lock: %v %v", got, e)
	}
	if got, e := race.Guards(p, l); !slices.EqualFunc(got, [][]int{{2}}, slices.Equal) || e != api.OK {
		t.Errorf("Guards: %v %v", got, e)
	}
	if got, e := race.Suspects(p, l); len(got) > 0 || e != api.OK {
		t.Errorf("Suspects: %v %v", got, e)
	}
}

// 14.1, 14.4: the chapter's example 2.
func TestExampleTwo(t *testing.T) {
	l := []api.Event{store(1, 0), store(2, 0), store(3, 0)}
	raced(t, "three", vars(false), l, [][2]int{{0, 1}, {1, 2}}, [][2]int{{0, 1}, {1, 2}})
	conflicted(t, "three", vars(false), l, [2]int{0, 1}, [2]int{0, 2}, [2]int{1, 2})
	raced(t, "three, atomic", vars(true), l, [][2]int{{0, 1}, {1, 2}}, nil)
	conflicted(t, "three, atomic", vars(true), l)
	raced(t, "three, of no variable", vars(), l, [][2]int{{0, 1}, {1, 2}}, nil)
	conflicted(t, "three, of no variable", vars(), l)
}

// 14.1, R2: what is told of no events.
func TestNone(t *testing.T) {
	for _, l := range [][]api.Event{nil, {}} {
		raced(t, "none", vars(false), l, nil, nil)
		conflicted(t, "none", vars(false), l)
		found, e1 := race.Races(vars(false), l)
		suspects, e2 := race.Suspects(vars(false), l)
		if len(found)+len(suspects) > 0 || e1 != api.OK || e2 != api.OK {
			t.Errorf("Races %v %v, Suspects %v %v", found, e1, suspects, e2)
		}
	}
}

// 14.1: races that are written out: of two loads there is none, nor of one goroutine with itself, nor where another one
// stands between.
func TestPairs(t *testing.T) {
	p := vars(false, true)
	raced(t, "loads", p, []api.Event{load(1, 0), load(2, 0)}, nil, nil)
	raced(t, "a load and a store", p, []api.Event{load(1, 0), store(2, 0)}, [][2]int{{0, 1}}, [][2]int{{0, 1}})
	raced(t, "a store and a load", p, []api.Event{store(1, 0), load(2, 0)}, [][2]int{{0, 1}}, [][2]int{{0, 1}})
	raced(t, "one goroutine", p, []api.Event{store(1, 0), store(1, 0)}, nil, nil)
	raced(t, "two variables", p, []api.Event{store(1, 0), store(2, 1)}, nil, nil)
	raced(t, "an atomic one", p, []api.Event{store(1, 1), store(2, 1)}, [][2]int{{0, 1}}, nil)
	raced(t, "locks", p, []api.Event{lock(1, 0), lock(2, 0)}, [][2]int{{0, 1}}, nil)
	raced(t, "its own between", p, []api.Event{store(1, 0), load(1, 1), store(2, 0)}, [][2]int{{0, 2}}, [][2]int{{0, 2}})
	raced(t, "over another one", p, []api.Event{store(1, 0), store(1, 1), load(2, 1), store(2, 0)}, [][2]int{{1, 2}}, nil)
	raced(t, "two ways", p, []api.Event{store(1, 0), load(2, 0), load(3, 0), store(0, 0)}, [][2]int{{0, 1}, {0, 2}, {1, 3}, {2, 3}}, [][2]int{{0, 1}, {0, 2}, {1, 3}, {2, 3}})
	// both touch the plain variable, but read it, and clash by the atomic one alone
	raced(t, "reads beside", p, []api.Event{event(1, r(1, 0), w(1, 1)), event(2, r(1, 0), w(1, 1))}, [][2]int{{0, 1}}, nil)
	raced(t, "a write beside", p, []api.Event{event(1, r(1, 0), w(1, 1)), event(2, w(1, 0), r(1, 1))}, [][2]int{{0, 1}}, [][2]int{{0, 1}})
	raced(t, "one beside a lock", p, []api.Event{event(1, w(1, 0), w(2, 0)), event(2, w(1, 0), w(2, 0))}, [][2]int{{0, 1}}, [][2]int{{0, 1}})
}

// edge tells whether two places are an edge, by the words of chapter 12.
func edge(is [][]bool, i, j int) bool { return is[i][j] && !between(is, i, j) }

// races are the races and the data races, by the chapter's words.
func races(p api.Prog, l []api.Event) (pairs, data [][2]int) {
	is := happens(l)
	for i := range l {
		for j := range l {
			if edge(is, i, j) && l[i].Go != l[j].Go {
				pairs = append(pairs, [2]int{i, j})
				if upon(p, l[i], l[j]) {
					data = append(data, [2]int{i, j})
				}
			}
		}
	}
	return pairs, data
}

// 14.1: Pairs and Data, by the chapter's words.
func TestRaces(t *testing.T) {
	var told [2]int
	for _, x := range append(plays(t, 120), longest()...) {
		pairs, data := races(x.p, x.t)
		raced(t, "by words", x.p, x.t, pairs, data)
		told[0] += len(pairs)
		told[1] += len(data)
	}
	if told[1] < 300 || told[0] < 3*told[1] {
		t.Errorf("told %v", told)
	}
}

// found asks for what Races tells.
func found(t *testing.T, what string, p api.Prog, l []api.Event, want ...api.Found) {
	t.Helper()
	if got, e := race.Races(p, l); !slices.Equal(got, want) || e != api.OK {
		t.Errorf("%s: Races: %v %v, not %v", what, got, e, want)
	}
}

// upAt is a race upon a variable at two places.
func upAt(num, f, pc, g, qc int) api.Found {
	return api.Found{Kind: api.KindRace, A: api.Spot{Func: f, PC: pc}, B: api.Spot{Func: g, PC: qc}, Num: num}
}

// 14.1: Races, of places either way round, of several variables, each once, in their order.
func TestFound(t *testing.T) {
	p := vars(false, true, false)
	for _, x := range [][2]api.Event{{at(store(1, 0), 2, 9), at(load(2, 0), 3, 1)}, {at(load(2, 0), 3, 1), at(store(1, 0), 2, 9)}} {
		found(t, "by function", p, x[:], upAt(0, 2, 9, 3, 1))
	}
	found(t, "by place", p, []api.Event{at(store(1, 2), 2, 9), at(load(2, 2), 2, 3)}, upAt(2, 2, 3, 2, 9))
	found(t, "one place", p, []api.Event{at(store(1, 2), 2, 3), at(store(2, 2), 2, 3)}, upAt(2, 2, 3, 2, 3))
	far := []api.Event{at(store(1, 0), math.MaxInt, math.MinInt), at(store(2, 0), math.MinInt, math.MaxInt)}
	found(t, "far places", p, far, upAt(0, math.MinInt, math.MaxInt, math.MaxInt, math.MinInt))
	every := []api.Event{at(event(1, w(1, 0), w(1, 1), w(1, 2), w(1, 3)), 1, 0), at(event(2, w(1, 0), r(1, 1), r(1, 2), r(1, 3)), 0, 1)}
	found(t, "each variable", p, every, upAt(0, 0, 1, 1, 0), upAt(2, 0, 1, 1, 0))
	some := []api.Event{at(event(1, r(1, 0), w(1, 2)), 1, 0), at(event(2, r(1, 0), r(1, 2)), 0, 1)}
	found(t, "what is written", p, some, upAt(2, 0, 1, 1, 0))
	other := []api.Event{at(event(1, r(1, 0), r(1, 2)), 1, 0), at(event(2, w(1, 0), r(1, 2)), 0, 1)}
	found(t, "what is written by the other one", p, other, upAt(0, 0, 1, 1, 0))
	twice := []api.Event{at(store(1, 0), 1, 1), at(store(2, 0), 2, 2), at(store(1, 0), 1, 1), at(store(2, 0), 2, 2)}
	found(t, "each once", p, twice, upAt(0, 1, 1, 2, 2))
	sorted := []api.Event{at(store(1, 2), 0, 0), at(store(2, 2), 0, 1), at(store(1, 0), 5, 5), at(store(2, 0), 4, 4), at(store(3, 0), 4, 3), at(store(4, 0), 4, 4), at(store(5, 0), 3, 9)}
	found(t, "in order", p, sorted, upAt(0, 3, 9, 4, 4), upAt(0, 4, 3, 4, 4), upAt(0, 4, 4, 5, 5), upAt(2, 0, 0, 0, 1))
}

// 14.1: Races, by the chapter's words.
func TestFoundWords(t *testing.T) {
	several, dropped := 0, 0
	for _, x := range append(plays(t, 120), longest()...) {
		_, data := races(x.p, x.t)
		var want []api.Found
		n := 0
		for _, pair := range data {
			a, b := x.t[pair[0]], x.t[pair[1]]
			for v := range x.p.Vars {
				if !x.p.Vars[v].Atomic && clashing(a, b, func(kind, num int) bool { return kind == api.ObVar && num == v }) {
					one := upAt(v, a.Func, a.PC, b.Func, b.PC)
					if a.Func > b.Func || a.Func == b.Func && a.PC > b.PC {
						one.A, one.B = one.B, one.A
					}
					n++
					if !slices.Contains(want, one) {
						want = append(want, one)
					}
				}
			}
		}
		slices.SortFunc(want, func(a, b api.Found) int {
			return cmp.Or(cmp.Compare(a.Num, b.Num), cmp.Compare(a.A.Func, b.A.Func), cmp.Compare(a.A.PC, b.A.PC), cmp.Compare(a.B.Func, b.B.Func), cmp.Compare(a.B.PC, b.B.PC))
		})
		found(t, "by words", x.p, x.t, want...)
		several += max(0, len(want)-1)
		dropped += n - len(want)
	}
	if several < 50 || dropped < 20 {
		t.Errorf("%d behind others, %d told more than once", several, dropped)
	}
}

// 14.1, 14.4: runs of a program, with a lock and without, with a variable that is atomic.
func TestProgram(t *testing.T) {
	text := func(kind string) string {
		return "scarab\n" + kind + " 0\nmutex\nfunc 0 1\nspawn _ f1 r0\nspawn _ f1 r0\nend\nfunc 0 1\nlock l0\nload r0 v0\nunlock l0\nstore v0 r0\nend\n"
	}
	p := parsed(t, text("var"))
	l := runOf(t, p, 0, 0, 1, 1, 1, 1, 2, 2, 2, 2)
	raced(t, "plain", p, l, [][2]int{{0, 2}, {1, 6}, {4, 6}, {5, 7}}, [][2]int{{5, 7}})
	found(t, "plain", p, l, upAt(0, 1, 1, 1, 3))
	conflicted(t, "plain", p, l, [2]int{5, 7}, [2]int{5, 9})
	suspected(t, "plain", p, l, [][]int{{}}, 0)
	p = parsed(t, text("atomic"))
	l = runOf(t, p, 0, 0, 1, 1, 1, 1, 2, 2, 2, 2)
	raced(t, "atomic", p, l, [][2]int{{0, 2}, {1, 6}, {4, 6}, {5, 7}}, nil)
	found(t, "atomic", p, l)
	conflicted(t, "atomic", p, l)
	suspected(t, "atomic", p, l, [][]int{{}})
}
