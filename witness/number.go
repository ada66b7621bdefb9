package witness

import (
	"iter"

	"scarab/api"
)

// mostSmall is the greatest variable, or reason, that a witness may name.
const mostSmall = 255

// number is a number of a witness: where it stands there, and what it may be.
type number struct {
	at          *int
	least, most int
}

// fits tells whether it is what it may be.
func (n number) fits() bool { return n.least <= *n.at && *n.at <= n.most }

// headOf are the numbers of a witness ahead of its picks, in the order of its bytes.
func headOf(w *api.Witness) []number {
	f, b := &w.Found, &w.Budget
	return []number{
		{&f.Kind, api.KindAssert, api.KindRace},
		{&f.A.Func, 0, api.MaxCode},
		{&f.A.PC, 0, api.MaxCode},
		{&f.B.Func, 0, api.MaxCode},
		{&f.B.PC, 0, api.MaxCode},
		{&f.Num, 0, mostSmall},
		{&f.Why, 0, mostSmall},
		{&b.Steps, 0, api.MaxSteps},
		{&b.Fuel, 0, api.MaxFuel},
		{&b.Runs, 0, api.MaxRuns},
	}
}

// countOf is how many picks there are.
func countOf(many *int) number { return number{many, 0, api.MaxSteps} }

// pairOf are the numbers of a pick.
func pairOf(pick *api.Pick) []number {
	return []number{{&pick.Go, 0, api.MaxGos - 1}, {&pick.Alt, 0, api.MaxCases}}
}

// numbers hands out all numbers of a witness, in the order of its bytes.
func numbers(w *api.Witness) iter.Seq[number] {
	return func(yield func(number) bool) {
		many := len(w.Picks)
		for _, n := range append(headOf(w), countOf(&many)) {
			if !yield(n) {
				return
			}
		}
		for i := range w.Picks {
			for _, n := range pairOf(&w.Picks[i]) {
				if !yield(n) {
					return
				}
			}
		}
	}
}

// right tells whether a witness is right.
func right(w api.Witness) bool {
	for n := range numbers(&w) {
		if !n.fits() {
			return false
		}
	}
	return true
}
