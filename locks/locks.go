// Package locks tells which locks are held in a trace, for the layers that ask it: sets of locks, and what the goroutines
// hold ahead of each event.
package locks

import "scarab/api"

// Set is a set of locks.
type Set [api.MaxLocks]bool

// All is the set of all locks.
func All() Set {
	var s Set
	for n := range s {
		s[n] = true
	}
	return s
}

// Meet are the locks that two sets have in common.
func (s Set) Meet(other Set) Set {
	for n, is := range other {
		s[n] = s[n] && is
	}
	return s
}

// List are a set's locks, rising.
func (s Set) List() []int {
	var l []int
	for n, is := range s {
		if is {
			l = append(l, n)
		}
	}
	return l
}

// Of is the first lock that an event of a trace touches, and whether there is one.
func Of(x api.Event) (int, bool) {
	for _, a := range x.Touch[:x.Touches] {
		if a.Kind == api.ObLock {
			return a.Num, true
		}
	}
	return 0, false
}

// Ahead are, of each event of a trace, the locks that its goroutine holds ahead of it.
func Ahead(t []api.Event) []Set {
	var now [api.MaxGos]Set
	held := make([]Set, len(t))
	for i, x := range t {
		held[i] = now[x.Go]
		n, ok := Of(x)
		switch {
		case !ok:
		case x.Op == api.OpLock, x.Op == api.OpTry && x.Val == 1:
			now[x.Go][n] = true
		case x.Op == api.OpUnlock:
			now[x.Go][n] = false
		}
	}
	return held
}
