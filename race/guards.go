package race

import (
	"slices"

	"scarab/api"
	"scarab/depend"
	"scarab/locks"
)

// variable is how the events of a trace touch a variable.
type variable struct {
	guards locks.Set
	shared bool // by two goroutines or more
	write  bool
}

// usage is how events touch a variable; held are the locks that are held ahead of each of them.
func usage(t []api.Event, held []locks.Set, n int) variable {
	use := variable{guards: locks.All()}
	users, _ := depend.Users(t, api.ObVar, n) // it fails of no trace alone
	for _, i := range users {
		use.guards = use.guards.Meet(held[i])
		use.shared = use.shared || t[i].Go != t[users[0]].Go
		use.write = use.write || slices.Contains(t[i].Touch[:], api.Access{Kind: api.ObVar, Num: n, Write: true})
	}
	return use
}

// Guards are, of each variable, the locks that are held whenever it is touched.
func Guards(p api.Prog, t []api.Event) ([][]int, api.Errno) {
	v, e := checked(p, t)
	if e != api.OK {
		return nil, e
	}
	held := locks.Ahead(t)
	l := make([][]int, len(p.Vars))
	for n := range l {
		if v[n] {
			l[n] = usage(t, held, n).guards.List()
		}
	}
	return l, api.OK
}

// Suspects are the plain variables that are shared and that nothing guards.
func Suspects(p api.Prog, t []api.Event) ([]int, api.Errno) {
	v, e := checked(p, t)
	if e != api.OK {
		return nil, e
	}
	held := locks.Ahead(t)
	var l []int
	for n := range p.Vars {
		if use := usage(t, held, n); v[n] && use.shared && use.write && use.guards == (locks.Set{}) {
			l = append(l, n)
		}
	}
	return l, api.OK
}
