package source

import (
	"math/bits"

	"scarab/api"
	"scarab/doze"
)

// sets is how many sets of goroutines there are: they are the numbers below it.
const sets = 1 << api.MaxGos

// everyone is the set of all goroutines.
const everyone = doze.Set(sets - 1)

// asked tells of each set of goroutines whether it is the initials of a run: one of them must be in a source set.
type asked [sets]bool

// metBy tells whether a set has one of each set that is asked for.
func (a *asked) metBy(set doze.Set) bool {
	for n := range sets {
		if a[n] && doze.Set(n)&set == 0 {
			return false
		}
	}
	return true
}

// ahead tells whether a set has fewer members than another one, or as many and stands ahead of it, both as rising lists:
// then it has the least goroutine that is in one of both alone.
func ahead(a, b doze.Set) bool {
	if a.Len() != b.Len() {
		return a.Len() < b.Len()
	}
	return a.Has(bits.TrailingZeros(uint(a ^ b)))
}
