package race

import (
	"iter"

	"scarab/api"
	"scarab/depend"
	"scarab/prog"
)

// plain tells which variables are plain ones of a program.
type plain [api.MaxVars]bool

// plainOf are a program's plain variables; or what is wrong with it.
func plainOf(p api.Prog) (plain, api.Errno) {
	var v plain
	if e, _ := prog.Check(p); e != api.OK {
		return v, api.ErrProg
	}
	for n, x := range p.Vars {
		v[n] = !x.Atomic
	}
	return v, api.OK
}

// checked are a program's plain variables, if it and a trace are right; or what is wrong with them.
func checked(p api.Prog, t []api.Event) (plain, api.Errno) {
	v, e := plainOf(p)
	if e == api.OK {
		e = depend.Check(t)
	}
	return v, e
}

// has tells whether an access is of a plain variable.
func (v plain) has(a api.Access) bool { return a.Kind == api.ObVar && v[a.Num] }

// upon hands out the plain variables that two events touch, and one of them writes.
func (v plain) upon(a, b api.Event) iter.Seq[int] {
	return func(yield func(int) bool) {
		for k, x := range a.Touch[:a.Touches] {
			if v.has(x) && depend.Clash(a.Touch[k:k+1], b.Touch[:b.Touches]) && !yield(x.Num) {
				return
			}
		}
	}
}

// clash tells whether two events touch one plain variable, and one of them writes it.
func (v plain) clash(a, b api.Event) bool {
	for range v.upon(a, b) {
		return true
	}
	return false
}

// without are the events of a trace without what they touch of plain variables: they depend on each other, if they
// synchronise.
func (v plain) without(t []api.Event) []api.Event {
	l := make([]api.Event, len(t))
	for i, x := range t {
		l[i] = x
		l[i].Touch, l[i].Touches = [api.MaxTouch]api.Access{}, 0
		for _, a := range x.Touch[:x.Touches] {
			if !v.has(a) {
				l[i].Touch[l[i].Touches] = a
				l[i].Touches++
			}
		}
	}
	return l
}
