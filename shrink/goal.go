package shrink

import (
	"scarab/api"
	"scarab/verdict"
)

// goal is what schedules of a program are to show, by a budget.
type goal struct {
	p api.Prog
	f api.Found
	b api.Budget
}

// missed tells what is wrong with picks, or else that they do not show it.
func (g goal) missed(picks []api.Pick) api.Errno {
	shows, e := verdict.Shows(g.p, picks, g.f, g.b)
	if e == api.OK && !shows {
		return api.ErrShow
	}
	return e
}

// step is the first move of picks that is shorter and not missed, if there is some; and how many shorter ones were tried.
func (g goal) step(picks []api.Pick) (next []api.Pick, tried int, some bool) {
	for move := range moves(picks) {
		if !Shorter(move, picks) {
			continue
		}
		tried++
		if g.missed(move) == api.OK {
			return move, tried, true
		}
	}
	return nil, tried, false
}
