package race_test

import (
	"slices"
	"testing"

	"scarab/api"
	"scarab/race"
	"scarab/sched"
)

// runOf are the events of a run that takes goroutines, each by its alternative 0.
func runOf(t *testing.T, p api.Prog, gos ...int) []api.Event {
	t.Helper()
	var picks []api.Pick
	for _, g := range gos {
		picks = append(picks, api.Pick{Go: g})
	}
	x, e, at := sched.Run(p, picks, api.Budget{Steps: 40, Fuel: 40})
	if e != api.OK {
		t.Fatalf("%v at %d", e, at)
	}
	return x.Events
}

// suspected asks for the guards of each variable, and for the suspects.
func suspected(t *testing.T, what string, p api.Prog, l []api.Event, guards [][]int, want ...int) {
	t.Helper()
	if got, e := race.Guards(p, l); !slices.EqualFunc(got, guards, slices.Equal) || e != api.OK {
		t.Errorf("%s: Guards: %v %v, not %v", what, got, e, guards)
	}
	if got, e := race.Suspects(p, l); !slices.Equal(got, want) || e != api.OK {
		t.Errorf("%s: Suspects: %v %v, not %v", what, got, e, want)
	}
}

// 14.4: conflicts that are written out: what orders are goroutines and all that is no plain variable.
func TestConflicts(t *testing.T) {
	p := vars(false, true, false)
	conflicted(t, "loads", p, []api.Event{load(1, 0), load(2, 0)})
	conflicted(t, "one goroutine", p, []api.Event{store(1, 0), store(1, 0)})
	conflicted(t, "a load and a store", p, []api.Event{load(1, 0), store(2, 0)}, [2]int{0, 1})
	conflicted(t, "an atomic one between", p, []api.Event{store(1, 0), store(1, 1), load(2, 1), store(2, 0)})
	conflicted(t, "an atomic one that is read", p, []api.Event{store(1, 0), load(1, 1), load(2, 1), store(2, 0)}, [2]int{0, 3})
	conflicted(t, "a plain one between", p, []api.Event{store(1, 0), store(1, 2), load(2, 2), store(2, 0)}, [2]int{0, 3}, [2]int{1, 2})
	conflicted(t, "no variable of the program between", p, []api.Event{store(1, 0), store(1, 7), load(2, 7), store(2, 0)})
	conflicted(t, "a lock between", p, []api.Event{store(1, 0), unlock(1, 1), lock(2, 1), store(2, 0)})
	conflicted(t, "another lock between", p, []api.Event{store(1, 0), unlock(1, 1), lock(2, 0), store(2, 0)}, [2]int{0, 3})
	conflicted(t, "a lock the other way", p, []api.Event{lock(2, 1), store(1, 0), unlock(1, 1), store(2, 0)}, [2]int{1, 3})
	spawn := does(0, api.OpSpawn, w(4, 0))
	spawn.Touch, spawn.Touches = [6]api.Access{w(4, 0), w(5, 0), w(5, 1)}, 3
	conflicted(t, "a spawn", p, []api.Event{store(0, 0), spawn, store(1, 0), store(0, 0)}, [2]int{2, 3})
	conflicted(t, "over a third one", p, []api.Event{store(1, 0), event(1, w(3, 0)), event(3, w(3, 0)), event(3, w(3, 1)), event(2, w(3, 1)), store(2, 0)})
	conflicted(t, "both synchronise", p, []api.Event{event(1, w(1, 0), w(2, 0)), event(2, w(1, 0), w(2, 0))})
	conflicted(t, "both clash by reads alone", p, []api.Event{event(1, w(1, 0), r(2, 0)), event(2, w(1, 0), r(2, 0))}, [2]int{0, 1})
	conflicted(t, "by i, then j", p, []api.Event{store(1, 0), load(2, 0), load(3, 0), store(1, 2), store(4, 0)}, [2]int{0, 1}, [2]int{0, 2}, [2]int{0, 4}, [2]int{1, 4}, [2]int{2, 4})
}

// 14.4: Conflicts, by the chapter's words.
func TestConflictsWords(t *testing.T) {
	var told [2]int
	for _, x := range append(plays(t, 120), longest()...) {
		l := x.t
		ahead := follows(len(l), func(i, j int) bool {
			return l[i].Go == l[j].Go || clashing(l[i], l[j], func(kind, num int) bool { return !isPlain(x.p, kind, num) })
		})
		var want [][2]int
		for i := range l {
			for j := i + 1; j < len(l); j++ {
				if l[i].Go == l[j].Go || !upon(x.p, l[i], l[j]) {
					continue
				}
				told[0]++
				if !ahead[i][j] {
					want = append(want, [2]int{i, j})
					told[1]++
				}
			}
		}
		conflicted(t, "by words", x.p, l, want...)
	}
	if told[1] < 500 || told[0] < told[1]+500 {
		t.Errorf("told %v", told)
	}
}

// all are the locks that there may be.
var all = []int{0, 1, 2, 3}

// 14.4: guards and suspects that are written out.
func TestGuards(t *testing.T) {
	p := vars(false, true, false)
	suspected(t, "none", p, nil, [][]int{all, nil, all})
	suspected(t, "no variables", vars(), []api.Event{store(1, 0), store(2, 0)}, nil)
	bare := []api.Event{store(1, 0), load(2, 0)}
	suspected(t, "bare", p, bare, [][]int{nil, nil, all}, 0)
	suspected(t, "atomic", vars(true), bare, [][]int{nil})
	suspected(t, "one goroutine", p, []api.Event{store(1, 0), store(1, 0)}, [][]int{nil, nil, all})
	suspected(t, "loads", p, []api.Event{load(1, 0), load(2, 0)}, [][]int{nil, nil, all})
	suspected(t, "two", p, []api.Event{store(1, 2), load(2, 2), load(3, 0), store(1, 0)}, [][]int{nil, nil, nil}, 0, 2)
	suspected(t, "the last one stores", p, []api.Event{load(1, 0), load(2, 0), store(2, 0)}, [][]int{nil, nil, all}, 0)
	suspected(t, "another variable stored", p, []api.Event{load(1, 0), load(2, 0), store(2, 2)}, [][]int{nil, nil, nil})
	two := []api.Event{lock(1, 3), lock(1, 0), store(1, 0), unlock(1, 3), store(1, 2), unlock(1, 0)}
	suspected(t, "two locks", p, two, [][]int{{0, 3}, nil, {0}})
	more := append(slices.Clone(two), lock(2, 3), store(2, 0), store(2, 2))
	suspected(t, "two locks, and one", p, more, [][]int{{3}, nil, nil}, 2)
	suspected(t, "another one holds it", p, []api.Event{lock(1, 0), store(2, 0), store(1, 0)}, [][]int{nil, nil, all}, 0)
	suspected(t, "another one gives it back", p, []api.Event{lock(1, 0), unlock(2, 0), store(1, 0)}, [][]int{{0}, nil, all})
	suspected(t, "given back and taken again", p, []api.Event{lock(1, 0), unlock(1, 0), lock(1, 0), store(1, 0)}, [][]int{{0}, nil, all})
	suspected(t, "given back twice", p, []api.Event{lock(1, 0), lock(1, 0), unlock(1, 0), store(1, 0)}, [][]int{nil, nil, all})
	suspected(t, "tried", p, []api.Event{try(1, 2, 1), store(1, 0), store(1, 2)}, [][]int{{2}, nil, {2}})
	suspected(t, "tried in vain", p, []api.Event{try(1, 2, 0), store(1, 0)}, [][]int{nil, nil, all})
	suspected(t, "tried with another value", p, []api.Event{try(1, 2, 2), store(1, 0)}, [][]int{nil, nil, all})
	val := lock(1, 1)
	val.Val = 9
	suspected(t, "a lock with a value", p, []api.Event{val, store(1, 0)}, [][]int{{1}, nil, all})
	suspected(t, "no lock touched", p, []api.Event{does(1, api.OpLock), store(1, 0)}, [][]int{nil, nil, all})
	suspected(t, "the first lock", p, []api.Event{does(1, api.OpLock, w(2, 1), w(2, 2)), store(1, 0)}, [][]int{{1}, nil, all})
	suspected(t, "the first lock, read", p, []api.Event{does(1, api.OpLock, r(2, 1), w(2, 2)), store(1, 0)}, [][]int{{1}, nil, all})
	suspected(t, "the first one back", p, []api.Event{lock(1, 1), lock(1, 2), does(1, api.OpUnlock, w(2, 1), w(2, 2)), store(1, 0)}, [][]int{{2}, nil, all})
	suspected(t, "no taking", p, []api.Event{does(1, api.OpSend, w(2, 1)), store(1, 0)}, [][]int{nil, nil, all})
	suspected(t, "ahead of itself", p, []api.Event{does(1, api.OpLock, w(1, 0), w(2, 1)), store(1, 2)}, [][]int{nil, nil, {1}})
	suspected(t, "ahead of its unlock", p, []api.Event{lock(1, 1), does(1, api.OpUnlock, w(1, 0), w(2, 1)), store(1, 2)}, [][]int{{1}, nil, nil})
}

// held tells whether a goroutine holds a lock ahead of an event, by the chapter's words: it took it last.
func held(l []api.Event, i, n int) bool {
	for k := i - 1; k >= 0; k-- {
		x := l[k]
		at := slices.IndexFunc(x.Touch[:x.Touches], func(a api.Access) bool { return a.Kind == api.ObLock })
		if x.Go != l[i].Go || at < 0 || x.Touch[at].Num != n {
			continue
		}
		switch x.Op {
		case api.OpLock:
			return true
		case api.OpUnlock:
			return false
		case api.OpTry:
			if x.Val == 1 {
				return true
			}
		}
	}
	return false
}

// 14.4: Guards and Suspects, by the chapter's words.
func TestGuardsWords(t *testing.T) {
	var told [4]int
	for _, x := range append(plays(t, 200), longest()...) {
		guards := make([][]int, len(x.p.Vars))
		var suspects []int
		for v := range x.p.Vars {
			if x.p.Vars[v].Atomic {
				continue
			}
			var users []int
			write := false
			for i, y := range x.t {
				for k := range y.Touches {
					if y.Touch[k].Kind == api.ObVar && y.Touch[k].Num == v {
						users = append(users, i)
						write = write || y.Touch[k].Write
					}
				}
			}
			for n := range api.MaxLocks {
				if !slices.ContainsFunc(users, func(i int) bool { return !held(x.t, i, n) }) {
					guards[v] = append(guards[v], n)
				}
			}
			many := slices.ContainsFunc(users, func(i int) bool { return x.t[i].Go != x.t[users[0]].Go })
			if many && write && len(guards[v]) == 0 {
				suspects = append(suspects, v)
			}
			if many && write {
				told[min(2, len(guards[v]))]++
			}
		}
		suspected(t, "by words", x.p, x.t, guards, suspects...)
		told[3] += len(suspects)
	}
	if told[0] < 100 || told[1] < 20 || told[2] < 1 || told[3] < 100 {
		t.Errorf("told %v", told)
	}
}
