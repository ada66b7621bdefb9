package desk

import (
	"scarab/api"
	"scarab/dpor"
	"scarab/persist"
	"scarab/shrink"
	"scarab/sleep"
	"scarab/tree"
	"scarab/verdict"
)

// explorer tells the runs of a mode; it is nil, if there is no such mode.
func explorer(mode int) func(api.Prog, api.Budget) (api.Runs, api.Errno) {
	switch mode {
	case api.ModeTree:
		return tree.All
	case api.ModeSleep:
		return sleep.All
	case api.ModePersist:
		return persist.All
	case api.ModeDpor:
		return dpor.All
	}
	return nil
}

// isBudget tells whether a budget is right.
func isBudget(u api.Budget) bool {
	return upTo(u.Steps, api.MaxSteps) && upTo(u.Fuel, api.MaxFuel) && upTo(u.Runs, api.MaxRuns)
}

// upTo tells whether a number is from 0 to most.
func upTo(x, most int) bool { return x >= 0 && x <= most }

// short is the short report of an explorer's runs, its schedules made shorter. Neither can fail: the runs are legal, and
// show what is reported.
func short(p api.Prog, runs []api.Run, u api.Budget) []api.Finding {
	l, _ := verdict.Report(p, runs, u)
	l, _ = shrink.All(p, first(l), u)
	return l
}

// first are the first findings of a report, as many as can be made shorter at once.
func first(l []api.Finding) []api.Finding { return l[:min(len(l), shrink.MaxItems)] }

// count is how many runs a function says yes to.
func count(runs []api.Run, yes func(api.Run) bool) int {
	n := 0
	for _, r := range runs {
		if yes(r) {
			n++
		}
	}
	return n
}

// repeats tells whether a run is a repeat.
func repeats(r api.Run) bool { return r.Repeat }

// isCut tells whether a run is cut.
func isCut(r api.Run) bool { return r.Cut }
