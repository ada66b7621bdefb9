package sleep_test

import (
	"cmp"
	"math"
	"slices"
	"testing"

	"scarab/api"
	"scarab/asm"
	"scarab/canon"
	"scarab/sample"
	"scarab/sched"
	"scarab/step"
)

// far are numbers that are out of most ranges.
var far = []int{math.MinInt, math.MinInt32, -2, -1, 1 << 17, 1 << 32, math.MaxInt - 1, math.MaxInt}

// Programs that are gone through often.
const (
	// one goroutine, one step.
	lone = "scarab\nfunc 0 0\nyield\nend"
	// one goroutine, no step.
	none = "scarab\nfunc 0 0\nend"
	// main spawns one that yields, and yields itself.
	pair = "scarab\nfunc 0 0\nspawn _ f1 r0\nyield\nend\nfunc 0 0\nyield\nend"
	// main spawns two that yield, and yields itself.
	three = "scarab\nfunc 0 0\nspawn _ f1 r0\nspawn _ f1 r0\nyield\nend\nfunc 0 0\nyield\nend"
	// main spawns one, and both store to one plain variable.
	stores = "scarab\nvar 0\nfunc 0 1\nspawn _ f1 r0\nstore v0 r0\nend\nfunc 0 1\nconst r0 1\nstore v0 r0\nend"
	// the same, and another one that yields.
	mixed = "scarab\nvar 0\nfunc 0 1\nspawn _ f1 r0\nspawn _ f2 r0\nstore v0 r0\nend\nfunc 0 1\nstore v0 r0\nend\nfunc 0 0\nyield\nend"
	// main locks a lock twice.
	stuck = "scarab\nmutex\nfunc 0 0\nlock l0\nlock l0\nend"
	// a yield for ever.
	ring = "scarab\nfunc 0 0\nyield\njump @0"
	// main spawns one that yields, and selects from two channels that have something.
	choice = `scarab
		chan 1
		chan 1
		func 0 1
		choose _
		onrecv c0 r0 @4
		onrecv c1 r0 @4
		send c0 r0
		send c1 r0
		spawn _ f1 r0
		select s0
		end
		func 0 0
		yield
		end`
	// main stores 1, another one loads, and goes round without a step just if it loaded 1.
	spins = `scarab
		atomic 0
		func 0 1
		spawn _ f1 r0
		const r0 1
		store v0 r0
		end
		func 0 1
		load r0 v0
		if r0 @1
		end`
)

// parsed is the program of a text.
func parsed(t *testing.T, text string) api.Prog {
	t.Helper()
	p, e, line := asm.Parse(text)
	if e != api.OK {
		t.Fatalf("%v in line %d of %s", e, line, text)
	}
	return p
}

// gos are picks of goroutines, each by its alternative 0.
func gos(l ...int) []api.Pick {
	var picks []api.Pick
	for _, g := range l {
		picks = append(picks, api.Pick{Go: g})
	}
	return picks
}

// budget is a budget with enough fuel.
func budget(steps, runs int) api.Budget { return api.Budget{Steps: steps, Fuel: 50, Runs: runs} }

// plenty is a budget that is enough for all small programs that end.
var plenty = budget(40, 1000)

// whole is a run that is not cut, cut one that is.
func whole(picks ...api.Pick) api.Run { return api.Run{Picks: picks} }
func cut(picks ...api.Pick) api.Run   { return api.Run{Picks: picks, Cut: true} }

// same tells whether two runs are.
func same(a, b api.Run) bool {
	return slices.Equal(a.Picks, b.Picks) && a.Cut == b.Cut && a.Repeat == b.Repeat
}

// byPicks tells which of two runs comes first: pick by pick, by goroutine and alternative.
func byPicks(a, b api.Run) int {
	return slices.CompareFunc(a.Picks, b.Picks, func(x, y api.Pick) int {
		return cmp.Or(cmp.Compare(x.Go, y.Go), cmp.Compare(x.Alt, y.Alt))
	})
}

// ready are the picks that can be taken behind others, and the state there.
func ready(t *testing.T, p api.Prog, picks []api.Pick, fuel int) ([]api.Pick, api.State) {
	t.Helper()
	x, e, at := sched.Run(p, picks, api.Budget{Steps: api.MaxSteps, Fuel: fuel})
	if e != api.OK {
		t.Fatalf("%v at %d of %v", e, at, picks)
	}
	l, e := step.Ready(p, x.End)
	if e != api.OK {
		t.Fatal(e)
	}
	return l, x.End
}

// free tells whether the next steps of two goroutines are independent, access by access.
func free(t *testing.T, p api.Prog, s api.State, g, h int) bool {
	t.Helper()
	a, e := step.Touch(p, s, g)
	b, e1 := step.Touch(p, s, h)
	if e != api.OK || e1 != api.OK {
		t.Fatalf("%d, %d: %v, %v", g, h, e, e1)
	}
	for _, x := range a {
		for _, y := range b {
			if x.Kind == y.Kind && x.Num == y.Num && (x.Write || y.Write) {
				return false
			}
		}
	}
	return true
}

// isSpun tells whether a goroutine of a state is spun.
func isSpun(s api.State) bool {
	return slices.ContainsFunc(s.Gos[:], func(it api.Go) bool { return it.Status == api.GoSpun })
}

// ended is where the search came to an end, with those that sleep there.
type ended struct {
	run   api.Run
	given bool
	z     []int
}

// worked is all that the search comes to by so many steps, as the chapter words it, and whether it came to a state that
// is spun; false, if there is more than most. Those who sleep are a list.
func worked(t *testing.T, p api.Prog, steps, fuel, most int) (all []ended, spun, some bool) {
	t.Helper()
	var on func(picks []api.Pick, z []int)
	on = func(picks []api.Pick, z []int) {
		if len(all) > most {
			return
		}
		open, s := ready(t, p, picks, fuel)
		spun = spun || isSpun(s)
		awake := slices.DeleteFunc(slices.Clone(open), func(pick api.Pick) bool { return slices.Contains(z, pick.Go) })
		switch {
		case len(open) == 0:
			all = append(all, ended{api.Run{Picks: picks}, false, z})
			return
		case len(awake) == 0:
			all = append(all, ended{api.Run{Picks: picks}, true, z})
			return
		case len(picks) == steps:
			all = append(all, ended{api.Run{Picks: picks, Cut: true}, false, z})
			return
		}
		var gone []int
		for i, pick := range awake {
			if i > 0 && awake[i-1].Go != pick.Go {
				gone = append(gone, awake[i-1].Go)
			}
			var sleepers []int
			for _, h := range append(slices.Clone(z), gone...) {
				if free(t, p, s, h, pick.Go) {
					sleepers = append(sleepers, h)
				}
			}
			on(append(slices.Clone(picks), pick), sleepers)
		}
	}
	on(nil, nil)
	return all, spun, len(all) <= most
}

// key is the key of a run.
func key(t *testing.T, p api.Prog, picks []api.Pick, b api.Budget) string {
	t.Helper()
	x, e, _ := sched.Run(p, picks, b)
	if e != api.OK {
		t.Fatal(e)
	}
	k, e := canon.Key(x.Events)
	if e != api.OK {
		t.Fatal(e)
	}
	return k
}

// keys are the keys of runs, in their order.
func keys(t *testing.T, p api.Prog, l []api.Run, b api.Budget) []string {
	t.Helper()
	var all []string
	for _, r := range l {
		all = append(all, key(t, p, r.Picks, b))
	}
	return all
}

// task is a program and a budget.
type task struct {
	p api.Prog
	b api.Budget
}

// tasks are sampled programs, with all kinds of budgets.
func tasks(n uint64) []task {
	var l []task
	for seed := range n {
		p := sample.Small(seed)
		switch seed % 8 {
		case 3:
			p = sample.Prog(seed)
		case 1, 5:
			p = sample.Racy(seed)
		}
		b := api.Budget{Steps: int(seed % 13), Fuel: int(seed * 7 % 31), Runs: int(seed * 13 % 41)}
		if seed%3 == 0 {
			b = api.Budget{Steps: 20, Fuel: 30, Runs: 400}
		}
		l = append(l, task{p, b})
	}
	return l
}

// spoil makes all members of a list, and its spare room, something else.
func spoil[T any](l []T, odd T) {
	l = l[:cap(l)]
	for i := range l {
		l[i] = odd
	}
}
