package bound_test

import (
	"cmp"
	"math"
	"slices"
	"testing"

	"scarab/api"
	"scarab/asm"
	"scarab/sample"
	"scarab/sched"
	"scarab/step"
)

// far are numbers that are out of most ranges.
var far = []int{math.MinInt, math.MinInt32, -2, -1, 1 << 17, 1 << 32, math.MaxInt - 1, math.MaxInt}

// Programs that are gone through often.
const (
	// one goroutine, one step.
	lone = "scarab\nfunc 0 0\nyield\nend"
	// one goroutine, no step.
	none = "scarab\nfunc 0 0\nend"
	// main spawns one that yields, and yields itself.
	pair = "scarab\nfunc 0 0\nspawn _ f1 r0\nyield\nend\nfunc 0 0\nyield\nend"
	// main spawns two that yield, and yields itself.
	three = "scarab\nfunc 0 0\nspawn _ f1 r0\nspawn _ f1 r0\nyield\nend\nfunc 0 0\nyield\nend"
	// main spawns one, and both store to one plain variable, 0 and 1.
	stores = "scarab\nvar 0\nfunc 0 1\nspawn _ f1 r0\nstore v0 r0\nend\nfunc 0 1\nconst r0 1\nstore v0 r0\nend"
	// main holds a lock that another one waits for, a third one yields.
	waits = "scarab\nmutex\nfunc 0 0\nlock l0\nspawn _ f1 r0\nspawn _ f2 r0\nunlock l0\nend\nfunc 0 0\nlock l0\nyield\nend\nfunc 0 0\nyield\nend"
	// main sends to another one, on an unbuffered channel.
	handed = "scarab\nchan 0\nfunc 0 1\nspawn _ f1 r0\nsend c0 r0\nend\nfunc 0 1\nrecv r0 c0 _\nend"
	// main locks a lock twice.
	stuck = "scarab\nmutex\nfunc 0 0\nlock l0\nlock l0\nend"
	// a yield for ever.
	ring = "scarab\nfunc 0 0\nyield\njump @0"
	// main fills two channels, selects from both till nothing is there, and ends.
	choice = `scarab
		chan 1
		chan 1
		func 0 1
		choose @3
		onrecv c0 r0 @2
		onrecv c1 r0 @2
		send c0 r0
		send c1 r0
		select s0
		end`
	// main stores 1, another one loads, and goes round without a step just if it loaded 1.
	spins = `scarab
		atomic 0
		func 0 1
		spawn _ f1 r0
		const r0 1
		store v0 r0
		end
		func 0 1
		load r0 v0
		if r0 @1
		end`
)

// parsed is the program of a text.
func parsed(t *testing.T, text string) api.Prog {
	t.Helper()
	p, e, line := asm.Parse(text)
	if e != api.OK {
		t.Fatalf("%v in line %d of %s", e, line, text)
	}
	return p
}

// gos are picks of goroutines, each by its alternative 0.
func gos(l ...int) []api.Pick {
	var picks []api.Pick
	for _, g := range l {
		picks = append(picks, api.Pick{Go: g})
	}
	return picks
}

// budget is a budget with enough fuel.
func budget(steps, runs int) api.Budget { return api.Budget{Steps: steps, Fuel: 50, Runs: runs} }

// plenty is a budget that is enough for all small programs that end.
var plenty = budget(40, 1000)

// whole is a run of goroutines that is not cut, cut one that is.
func whole(l ...int) api.Run { return api.Run{Picks: gos(l...)} }
func cut(l ...int) api.Run   { return api.Run{Picks: gos(l...), Cut: true} }

// same tells whether two runs are.
func same(a, b api.Run) bool {
	return slices.Equal(a.Picks, b.Picks) && a.Cut == b.Cut && a.Repeat == b.Repeat
}

// byPicks tells which of two runs comes first: pick by pick, by goroutine and alternative.
func byPicks(a, b api.Run) int {
	return slices.CompareFunc(a.Picks, b.Picks, func(x, y api.Pick) int {
		return cmp.Or(cmp.Compare(x.Go, y.Go), cmp.Compare(x.Alt, y.Alt))
	})
}

// ready are the picks that can be taken behind others, and the state there.
func ready(t *testing.T, p api.Prog, picks []api.Pick, fuel int) ([]api.Pick, api.State) {
	t.Helper()
	x, e, at := sched.Run(p, picks, api.Budget{Steps: api.MaxSteps, Fuel: fuel})
	if e != api.OK {
		t.Fatalf("%v at %d of %v", e, at, picks)
	}
	l, e := step.Ready(p, x.End)
	if e != api.OK {
		t.Fatal(e)
	}
	return l, x.End
}

// forced are the places of a schedule's preemptions, by the chapter's words.
func forced(t *testing.T, p api.Prog, picks []api.Pick, fuel int) []int {
	t.Helper()
	var places []int
	for i, pick := range picks {
		if i == 0 || pick.Go == picks[i-1].Go {
			continue
		}
		_, s := ready(t, p, picks[:i], fuel)
		if l, e := step.Alts(p, s, picks[i-1].Go); e == api.OK && len(l) > 0 {
			places = append(places, i)
		}
	}
	return places
}

// isSpun tells whether a goroutine of a state is spun.
func isSpun(s api.State) bool {
	return slices.ContainsFunc(s.Gos[:], func(it api.Go) bool { return it.Status == api.GoSpun })
}

// found is what a search comes to: its runs, and whether one of its states is spun.
type found struct {
	runs []api.Run
	spun bool
}

// worked is what a search with a bound comes to by so many steps, worked out length by length from the legal schedules;
// false, if there are more than most at some length.
func worked(t *testing.T, p api.Prog, k, steps, fuel, most int) (found, bool) {
	t.Helper()
	var f found
	now := [][]api.Pick{nil}
	for n := 0; len(now) > 0; n++ {
		var next [][]api.Pick
		for _, picks := range now {
			open, s := ready(t, p, picks, fuel)
			f.spun = f.spun || isSpun(s)
			if len(open) == 0 || n == steps {
				f.runs = append(f.runs, api.Run{Picks: picks, Cut: len(open) > 0})
				continue
			}
			for _, pick := range open {
				longer := append(slices.Clone(picks), pick)
				if len(forced(t, p, longer, fuel)) <= k {
					next = append(next, longer)
				}
			}
		}
		if now = next; len(now)+len(f.runs) > most {
			return found{}, false
		}
	}
	slices.SortFunc(f.runs, byPicks)
	return f, true
}

// complete tells whether a search is by a budget.
func (f found) complete(b api.Budget) bool {
	return len(f.runs) <= b.Runs && !f.spun && !slices.ContainsFunc(f.runs, func(r api.Run) bool { return r.Cut })
}

// ends are the last states of runs that are not cut, each once, in their order.
func ends(t *testing.T, p api.Prog, l []api.Run, fuel int) []api.State {
	t.Helper()
	var states []api.State
	for _, r := range l {
		if r.Cut {
			continue
		}
		if _, s := ready(t, p, r.Picks, fuel); !slices.Contains(states, s) {
			states = append(states, s)
		}
	}
	return states
}

// task is a program and a budget.
type task struct {
	p api.Prog
	b api.Budget
}

// tasks are sampled programs, with all kinds of budgets.
func tasks(n uint64) []task {
	var l []task
	for seed := range n {
		p := sample.Small(seed)
		switch seed % 8 {
		case 3:
			p = sample.Prog(seed)
		case 1, 5:
			p = sample.Racy(seed)
		}
		b := api.Budget{Steps: int(seed % 13), Fuel: int(seed * 7 % 31), Runs: int(seed * 13 % 101)}
		if seed%3 == 0 {
			b = api.Budget{Steps: 20, Fuel: 30, Runs: 400}
		}
		l = append(l, task{p, b})
	}
	return l
}

// spoil makes all members of a list, and its spare room, something else.
func spoil[T any](l []T, odd T) {
	l = l[:cap(l)]
	for i := range l {
		l[i] = odd
	}
}
