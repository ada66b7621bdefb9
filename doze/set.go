package doze

import (
	"iter"
	"math/bits"

	"scarab/api"
	"scarab/step"
)

// Set is a set of goroutines: the bits of its members are 1.
type Set uint

// One is the set of one goroutine.
func One(g int) Set { return 1 << g }

// Has tells whether a goroutine is a member.
func (s Set) Has(g int) bool { return s>>g&1 == 1 }

// Below are the members that are less than a goroutine.
func (s Set) Below(g int) Set { return s & (One(g) - 1) }

// Least is the least member of a set that has one.
func (s Set) Least() int { return bits.TrailingZeros(uint(s)) }

// Len is how many members there are.
func (s Set) Len() int { return bits.OnesCount(uint(s)) }

// Each hands out the members, rising.
func (s Set) Each() iter.Seq[int] {
	return func(yield func(int) bool) {
		for g := range api.MaxGos {
			if s.Has(g) && !yield(g) {
				return
			}
		}
	}
}

// Ready are the goroutines that have a ready pick in a state.
func Ready(p api.Prog, s api.State) (Set, api.Errno) {
	picks, e := step.Ready(p, s)
	return Picked(picks), e
}

// Picked are the goroutines of picks, none of which is out of range.
func Picked(picks []api.Pick) Set {
	var set Set
	for _, pick := range picks {
		set |= One(pick.Go)
	}
	return set
}
