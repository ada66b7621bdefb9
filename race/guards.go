package race

import (
	"slices"

	"scarab/api"
	"scarab/depend"
)

// locks is a set of locks.
type locks [api.MaxLocks]bool

// every is the set of all locks.
func every() locks {
	var s locks
	for n := range s {
		s[n] = true
	}
	return s
}

// meet are the locks that two sets have in common.
func (s locks) meet(other locks) locks {
	for n, is := range other {
		s[n] = s[n] && is
	}
	return s
}

// list are a set's locks, rising.
func (s locks) list() []int {
	var l []int
	for n, is := range s {
		if is {
			l = append(l, n)
		}
	}
	return l
}

// heldAhead are, of each event of a trace, the locks that its goroutine holds ahead of it.
func heldAhead(t []api.Event) []locks {
	var now [api.MaxGos]locks
	held := make([]locks, len(t))
	for i, x := range t {
		held[i] = now[x.Go]
		n, ok := lockOf(x)
		switch {
		case !ok:
		case x.Op == api.OpLock, x.Op == api.OpTry && x.Val == 1:
			now[x.Go][n] = true
		case x.Op == api.OpUnlock:
			now[x.Go][n] = false
		}
	}
	return held
}

// lockOf is the first lock that an event touches, and whether there is one.
func lockOf(x api.Event) (int, bool) {
	for _, a := range x.Touch[:x.Touches] {
		if a.Kind == api.ObLock {
			return a.Num, true
		}
	}
	return 0, false
}

// variable is how the events of a trace touch a variable.
type variable struct {
	guards locks
	shared bool // by two goroutines or more
	write  bool
}

// usage is how events touch a variable; held are the locks that are held ahead of each of them.
func usage(t []api.Event, held []locks, n int) variable {
	use := variable{guards: every()}
	users, _ := depend.Users(t, api.ObVar, n) // it fails of no trace alone
	for _, i := range users {
		use.guards = use.guards.meet(held[i])
		use.shared = use.shared || t[i].Go != t[users[0]].Go
		use.write = use.write || slices.Contains(t[i].Touch[:], api.Access{Kind: api.ObVar, Num: n, Write: true})
	}
	return use
}

// Guards are, of each variable, the locks that are held whenever it is touched.
func Guards(p api.Prog, t []api.Event) ([][]int, api.Errno) {
	v, e := checked(p, t)
	if e != api.OK {
		return nil, e
	}
	held := heldAhead(t)
	l := make([][]int, len(p.Vars))
	for n := range l {
		if v[n] {
			l[n] = usage(t, held, n).guards.list()
		}
	}
	return l, api.OK
}

// Suspects are the plain variables that are shared and that nothing guards.
func Suspects(p api.Prog, t []api.Event) ([]int, api.Errno) {
	v, e := checked(p, t)
	if e != api.OK {
		return nil, e
	}
	held := heldAhead(t)
	var l []int
	for n := range p.Vars {
		if use := usage(t, held, n); v[n] && use.shared && use.write && use.guards == (locks{}) {
			l = append(l, n)
		}
	}
	return l, api.OK
}
