package persist

import (
	"slices"

	"scarab/api"
	"scarab/depend"
	"scarab/doze"
	"scarab/flow"
	"scarab/state"
	"scarab/step"
)

// reader reads a program's text. What may be touched from a place on is kept: a search comes to the same places often.
type reader struct {
	p   api.Prog
	may map[api.Spot][]api.Access
}

// read is a reader of a program.
func read(p api.Prog) reader { return reader{p, map[api.Spot][]api.Access{}} }

// from is what may be touched from a place on.
func (r reader) from(at api.Spot) []api.Access {
	l, there := r.may[at]
	if !there {
		l, _ = flow.May(r.p, at.Func, at.PC)
		r.may[at] = l
	}
	return l
}

// ever is what a goroutine may touch in a state, from now on.
func (r reader) ever(s api.State, g int) []api.Access {
	it := s.Gos[g]
	own := api.Access{Kind: api.ObGo, Num: g, Write: true}
	return slices.Concat(r.from(api.Spot{Func: it.Func, PC: it.PC}), []api.Access{own})
}

// ties are, of each live goroutine of a state, the live ones that may touch what its next step touches: a closed set has
// these too, if it has that one. (Each is its own, which does not matter.)
type ties [api.MaxGos]doze.Set

// look finds the ties of a state.
func (r reader) look(s api.State) ties {
	live := state.Live(s)
	var t ties
	var touch [api.MaxGos][]api.Access
	for _, g := range live {
		touch[g], _ = step.Touch(r.p, s, g)
	}
	for _, h := range live {
		ever := r.ever(s, h)
		for _, g := range live {
			if depend.Clash(ever, touch[g]) {
				t[g] |= doze.One(h)
			}
		}
	}
	return t
}

// grown is a set with all that its members ask for.
func (t ties) grown(set doze.Set) doze.Set {
	more := set
	for g := range set.Each() {
		more |= t[g]
	}
	return more
}

// closed tells whether a set is.
func (t ties) closed(set doze.Set) bool { return t.grown(set) == set }

// closure is the closure of a goroutine.
func (t ties) closure(g int) doze.Set {
	set := doze.One(g)
	for !t.closed(set) {
		set = t.grown(set)
	}
	return set
}

// persistent is the persistent set of a state, of which some goroutines are ready.
func (r reader) persistent(s api.State, ready doze.Set) doze.Set {
	t := r.look(s)
	var best doze.Set
	least := api.MaxGos + 1
	for g := range ready.Each() {
		set := t.closure(g)
		if n := (set & ready).Len(); n < least {
			best, least = set, n
		}
	}
	return best
}
