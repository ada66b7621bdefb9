package tree_test

import (
	"cmp"
	"math"
	"slices"
	"testing"

	"scarab/api"
	"scarab/asm"
	"scarab/canon"
	"scarab/sample"
	"scarab/sched"
	"scarab/step"
)

// far are numbers that are out of most ranges.
var far = []int{math.MinInt, math.MinInt32, -2, -1, 1 << 17, 1 << 32, math.MaxInt - 1, math.MaxInt}

// Programs that are gone through often.
const (
	// one goroutine, one step.
	lone = "scarab\nfunc 0 0\nyield\nend"
	// one goroutine, no step.
	none = "scarab\nfunc 0 0\nend"
	// main spawns one that yields, and yields itself.
	pair = "scarab\nfunc 0 0\nspawn _ f1 r0\nyield\nend\nfunc 0 0\nyield\nend"
	// main spawns one, and both store to one plain variable.
	stores = "scarab\nvar 0\nfunc 0 1\nspawn _ f1 r0\nstore v0 r0\nend\nfunc 0 1\nconst r0 1\nstore v0 r0\nend"
	// main locks a lock twice.
	stuck = "scarab\nmutex\nfunc 0 0\nlock l0\nlock l0\nend"
	// a yield for ever.
	ring = "scarab\nfunc 0 0\nyield\njump @0"
	// main fills two channels, selects from both till nothing is there, and ends.
	choice = `scarab
		chan 1
		chan 1
		func 0 1
		choose @3
		onrecv c0 r0 @2
		onrecv c1 r0 @2
		send c0 r0
		send c1 r0
		select s0
		end`
	// main and another one take two locks each, each first the other one's second.
	locks = `scarab
		mutex
		mutex
		func 0 0
		spawn _ f1 r0
		lock l0
		lock l1
		unlock l1
		unlock l0
		end
		func 0 0
		lock l1
		lock l0
		unlock l0
		unlock l1
		end`
	// main stores 1, another one loads, and goes round without a step just if it loaded 1.
	spins = `scarab
		atomic 0
		func 0 1
		spawn _ f1 r0
		const r0 1
		store v0 r0
		end
		func 0 1
		load r0 v0
		if r0 @1
		end`
)

// parsed is the program of a text.
func parsed(t *testing.T, text string) api.Prog {
	t.Helper()
	p, e, line := asm.Parse(text)
	if e != api.OK {
		t.Fatalf("%v in line %d of %s", e, line, text)
	}
	return p
}

// gos are picks of goroutines, each by its alternative 0.
func gos(l ...int) []api.Pick {
	var picks []api.Pick
	for _, g := range l {
		picks = append(picks, api.Pick{Go: g})
	}
	return picks
}

// budget is a budget with enough fuel.
func budget(steps, runs int) api.Budget { return api.Budget{Steps: steps, Fuel: 50, Runs: runs} }

// plenty is a budget that is enough for all small programs that end.
var plenty = budget(40, 1000)

// byPicks tells which of two runs comes first: pick by pick, by goroutine and alternative.
func byPicks(a, b api.Run) int {
	return slices.CompareFunc(a.Picks, b.Picks, func(x, y api.Pick) int {
		return cmp.Or(cmp.Compare(x.Go, y.Go), cmp.Compare(x.Alt, y.Alt))
	})
}

// same tells whether two runs are.
func same(a, b api.Run) bool {
	return slices.Equal(a.Picks, b.Picks) && a.Cut == b.Cut && a.Repeat == b.Repeat
}

// ready are the picks that can be taken behind others.
func ready(t *testing.T, p api.Prog, picks []api.Pick, fuel int) ([]api.Pick, api.State) {
	t.Helper()
	x, e, at := sched.Run(p, picks, api.Budget{Steps: api.MaxSteps, Fuel: fuel})
	if e != api.OK {
		t.Fatalf("%v at %d of %v", e, at, picks)
	}
	l, e := step.Ready(p, x.End)
	if e != api.OK {
		t.Fatal(e)
	}
	return l, x.End
}

// isSpun tells whether a goroutine of a state is spun.
func isSpun(s api.State) bool {
	return slices.ContainsFunc(s.Gos[:], func(it api.Go) bool { return it.Status == api.GoSpun })
}

// worked are all runs of a program of at most so many steps, worked out length by length from the legal schedules, and
// whether one of the states is spun; false, if there are more than most at some length.
func worked(t *testing.T, p api.Prog, steps, fuel, most int) ([]api.Run, bool, bool) {
	t.Helper()
	var l []api.Run
	spun := false
	now := [][]api.Pick{nil}
	for n := 0; len(now) > 0; n++ {
		var next [][]api.Pick
		for _, picks := range now {
			open, s := ready(t, p, picks, fuel)
			spun = spun || isSpun(s)
			if len(open) == 0 || n == steps {
				l = append(l, api.Run{Picks: picks, Cut: len(open) > 0})
				continue
			}
			for _, pick := range open {
				next = append(next, append(slices.Clone(picks), pick))
			}
		}
		if now = next; len(now)+len(l) > most {
			return nil, false, false
		}
	}
	slices.SortFunc(l, byPicks)
	return l, spun, true
}

// keys are the keys of runs, sorted, each once; of those that are not cut alone, or of all.
func keys(t *testing.T, p api.Prog, l []api.Run, b api.Budget, all bool) []string {
	t.Helper()
	var k []string
	for _, r := range l {
		if r.Cut && !all {
			continue
		}
		x, e, _ := sched.Run(p, r.Picks, b)
		if e != api.OK {
			t.Fatal(e)
		}
		key, e := canon.Key(x.Events)
		if e != api.OK {
			t.Fatal(e)
		}
		k = append(k, key)
	}
	slices.Sort(k)
	return slices.Compact(k)
}

// ends are the last states of runs that are not cut, each once, in their order.
func ends(t *testing.T, p api.Prog, l []api.Run, fuel int) []api.State {
	t.Helper()
	var states []api.State
	for _, r := range l {
		if r.Cut {
			continue
		}
		if _, s := ready(t, p, r.Picks, fuel); !slices.Contains(states, s) {
			states = append(states, s)
		}
	}
	return states
}

// task is a program and a budget.
type task struct {
	p api.Prog
	b api.Budget
}

// tasks are sampled programs, with all kinds of budgets.
func tasks(n uint64) []task {
	var l []task
	for seed := range n {
		p := sample.Small(seed)
		switch seed % 8 {
		case 3:
			p = sample.Prog(seed)
		case 5:
			p = sample.Racy(seed)
		}
		b := api.Budget{Steps: int(seed % 13), Fuel: int(seed * 7 % 31), Runs: int(seed * 13 % 101)}
		if seed%3 == 0 {
			b = api.Budget{Steps: 20, Fuel: 30, Runs: 400}
		}
		l = append(l, task{p, b})
	}
	return l
}

// spoil makes all members of a list, and its spare room, something else.
func spoil[T any](l []T, odd T) {
	l = l[:cap(l)]
	for i := range l {
		l[i] = odd
	}
}
