package depend

import (
	"slices"

	"scarab/api"
	"scarab/sched"
)

// Swap are picks of which one has changed places with the next one, if both are independent.
func Swap(p api.Prog, picks []api.Pick, i int, b api.Budget) ([]api.Pick, bool, api.Errno) {
	t, e := events(p, picks, i, len(picks)-2, b)
	if e != api.OK || Dependent(t[i], t[i+1]) {
		return nil, false, e
	}
	l := slices.Clone(picks)
	l[i], l[i+1] = l[i+1], l[i]
	return l, true, api.OK
}

// Sink are picks of which one has moved to the front as far as it can.
func Sink(p api.Prog, picks []api.Pick, i int, b api.Budget) ([]api.Pick, int, api.Errno) {
	t, e := events(p, picks, i, len(picks)-1, b)
	if e != api.OK {
		return nil, 0, e
	}
	l, at := slices.Clone(picks), i
	// independent steps commute: the pick has the same event wherever it stands by then.
	for at > 0 && !Dependent(t[at-1], t[i]) {
		l[at-1], l[at] = l[at], l[at-1]
		at--
	}
	return l, at, api.OK
}

// events are those of a run by picks, of which the place i, from 0 to last, is asked for.
func events(p api.Prog, picks []api.Pick, i, last int, b api.Budget) ([]api.Event, api.Errno) {
	t, e, _ := sched.Run(p, picks, b)
	switch {
	// a run tells these two ahead of what is wrong with the budget; the place stands between.
	case e == api.ErrProg || len(picks) > api.MaxSteps:
		return nil, e
	case i < 0 || i > last:
		return nil, api.ErrArg
	}
	return t.Events, e
}
