package locks

import (
	"slices"
	"testing"

	"scarab/api"
	"scarab/sample"
)

// A set has just the members that it was made of; two meet in those that both have.
func TestSet(t *testing.T) {
	var all []Set
	for n := range 1 << api.MaxLocks {
		var l []int
		var s Set
		for k := range api.MaxLocks {
			if n>>k&1 == 1 {
				l = append(l, k)
				s[k] = true
			}
		}
		if !slices.Equal(s.List(), l) {
			t.Errorf("%v: %v", l, s.List())
		}
		all = append(all, s)
	}
	for m, a := range all {
		for n, b := range all {
			if a.Meet(b) != all[m&n] {
				t.Errorf("%v, %v: %v", a, b, a.Meet(b))
			}
		}
	}
	if All() != all[len(all)-1] {
		t.Errorf("all: %v", All())
	}
}

// Of is the first lock that an event touches, behind what is no lock.
func TestOf(t *testing.T) {
	for seed := range uint64(300) {
		for _, x := range sample.Trace(seed, 3) {
			want := slices.IndexFunc(x.Touch[:], func(a api.Access) bool { return a.Kind == api.ObLock })
			n, ok := Of(x)
			if ok != (want >= 0) || ok && n != x.Touch[want].Num || !ok && n != 0 {
				t.Errorf("%v: %d %v", x, n, ok)
			}
		}
	}
}

// Ahead tells what each goroutine took and did not give back: ahead of the event, not behind it.
func TestAhead(t *testing.T) {
	does := func(g int, op api.Op, n int, val int64) api.Event {
		return api.Event{Go: g, Op: op, Val: val, Touches: 2, Touch: [6]api.Access{{Kind: api.ObLock, Num: n, Write: true}, {Kind: api.ObGo, Num: g, Write: true}}}
	}
	l := []api.Event{does(1, api.OpLock, 2, 0), does(1, api.OpTry, 0, 1), does(2, api.OpTry, 0, 0), does(2, api.OpLock, 3, 0), does(1, api.OpUnlock, 2, 0), does(1, api.OpYield, 3, 0)}
	want := [][]int{nil, {2}, nil, nil, {0, 2}, {0}}
	for i, s := range Ahead(l) {
		if !slices.Equal(s.List(), want[i]) {
			t.Errorf("ahead of %d: %v, not %v", i, s.List(), want[i])
		}
	}
}
