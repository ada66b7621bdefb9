// Package doze is the search with sleeping goroutines that sleep and persist share: one goes through all goroutines that
// are ready, the other one through some of them. Its sets, and what it tells of next steps, are dpor's too. It calls
// nothing but what all of them may call.
package doze

import (
	"slices"

	"scarab/api"
)

// Among tells which goroutines are gone through in a state in which some are ready: at least one of these; others that it
// tells do not matter.
type Among func(s api.State, ready Set) Set

// All are the runs, in the order of the search, and whether it is complete.
func All(p api.Prog, b api.Budget, among Among) (api.Runs, api.Errno) {
	var l []api.Run
	whole, e := each(p, b, among, func(at place, k kind) {
		if k != isGiven {
			l = append(l, api.Run{Picks: slices.Clone(at.picks), Cut: k == isCut})
		}
	})
	return api.Runs{All: l, Complete: whole}, e
}

// Tally is how many runs there are, and how many picks were given up, since all that was to be gone through slept.
func Tally(p api.Prog, b api.Budget, among Among) (int, int, api.Errno) {
	var runs, given int
	_, e := each(p, b, among, func(_ place, k kind) {
		if k == isGiven {
			given++
		} else {
			runs++
		}
	})
	return runs, given, e
}
