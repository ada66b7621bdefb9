package verdict_test

import (
	"math"
	"slices"
	"testing"

	"scarab/api"
	"scarab/asm"
	"scarab/race"
	"scarab/sample"
	"scarab/sched"
)

// far are numbers that are out of most ranges.
var far = []int{math.MinInt, math.MinInt32, -2, -1, 1 << 17, 1 << 32, math.MaxInt - 1, math.MaxInt}

// Programs that are gone through often.
const (
	// one goroutine, one step.
	lone = "scarab\nfunc 0 0\nyield\nend"
	// main spawns one that yields, and yields itself.
	pair = "scarab\nfunc 0 0\nspawn _ f1 r0\nyield\nend\nfunc 0 0\nyield\nend"
	// main spawns one, and both store to one plain variable.
	stores = "scarab\nvar 0\nfunc 0 1\nspawn _ f1 r0\nstore v0 r0\nend\nfunc 0 1\nstore v0 r0\nend"
	// main locks a lock twice.
	twice = "scarab\nmutex\nfunc 0 0\nlock l0\nlock l0\nend"
	// a goroutine sends on a channel that nobody receives from.
	left = "scarab\nchan 0\nfunc 0 0\nspawn _ f1 r0\nend\nfunc 0 1\nsend c0 r0\nend"
	// two take two locks, each first the other one's second.
	crossed = `scarab
		mutex
		mutex
		func 0 0
		spawn _ f1 r0
		lock l0
		lock l1
		unlock l1
		unlock l0
		end
		func 0 0
		lock l1
		lock l0
		unlock l0
		unlock l1
		end`
	// main's assertion fails, and 2 divides by 0; 1 and 3 stay, one at a lock, one at an offer; 2 and 3 store to one
	// variable.
	many = `scarab
		var 0
		mutex
		chan 0
		func 0 1
		spawn _ f1 r0
		spawn _ f2 r0
		spawn _ f3 r0
		assert r0 7
		end
		func 0 0
		lock l0
		lock l0
		end
		func 0 1
		store v0 r0
		rem r0 r0 r0
		end
		func 0 1
		store v0 r0
		send c0 r0
		end`
)

// parsed is the program of a text.
func parsed(t *testing.T, text string) api.Prog {
	t.Helper()
	p, e, line := asm.Parse(text)
	if e != api.OK {
		t.Fatalf("%v in line %d of %s", e, line, text)
	}
	return p
}

// gos are picks of goroutines, each by its alternative 0.
func gos(l ...int) []api.Pick {
	var picks []api.Pick
	for _, g := range l {
		picks = append(picks, api.Pick{Go: g})
	}
	return picks
}

// budget is a budget with enough fuel.
func budget(steps, runs int) api.Budget { return api.Budget{Steps: steps, Fuel: 50, Runs: runs} }

// plenty is a budget that is enough for all small programs that end.
var plenty = budget(40, 1000)

// at is something that was found at a place.
func at(kind, f, pc int) api.Found {
	return api.Found{Kind: kind, A: api.Spot{Func: f, PC: pc}}
}

// fault is a fault at a place.
func fault(f, pc, why int) api.Found {
	return api.Found{Kind: api.KindFault, A: api.Spot{Func: f, PC: pc}, Why: why}
}

// raced is a race on a variable at two places.
func raced(v, f, pc, g, qc int) api.Found {
	return api.Found{Kind: api.KindRace, A: api.Spot{Func: f, PC: pc}, B: api.Spot{Func: g, PC: qc}, Num: v}
}

// fields are what the order of what is found goes by, one behind the other.
func fields(f api.Found) []int {
	return []int{f.Kind, f.Num, f.A.Func, f.A.PC, f.B.Func, f.B.PC, f.Why}
}

// inOrder is the order of what is found, by the chapter's words.
func inOrder(a, b api.Found) int { return slices.Compare(fields(a), fields(b)) }

// shown is what a run shows, by the chapter's words.
func shown(t *testing.T, p api.Prog, picks []api.Pick, b api.Budget) []api.Found {
	t.Helper()
	x, e, where := sched.Run(p, picks, b)
	if e != api.OK {
		t.Fatalf("%v at %d of %v", e, where, picks)
	}
	var some, live []api.Found
	spun := 0
	for _, it := range x.End.Gos {
		switch it.Status {
		case api.GoFailed:
			if it.Why == api.WhyAssert {
				some = append(some, at(api.KindAssert, it.Func, it.PC))
			} else {
				some = append(some, fault(it.Func, it.PC, it.Why))
			}
		case api.GoSpun:
			spun++
		case api.GoLive, api.GoWait:
			live = append(live, at(api.KindLeak, it.Func, it.PC))
		}
	}
	maximal, _ := sched.Maximal(p, picks, b)
	if main := x.End.Gos[0]; maximal && spun == 0 {
		if main.Status == api.GoLive || main.Status == api.GoWait {
			live = []api.Found{at(api.KindDeadlock, main.Func, main.PC)}
		}
		some = append(some, live...)
	}
	races, e := race.Races(p, x.Events)
	if e != api.OK {
		t.Fatal(e)
	}
	return unlike(append(some, races...))
}

// unlike are things that were found in order, each once.
func unlike(l []api.Found) []api.Found {
	var some []api.Found
	for _, f := range l {
		if !slices.Contains(some, f) {
			some = append(some, f)
		}
	}
	slices.SortFunc(some, inOrder)
	return some
}

// reported is the report of runs, by the chapter's words.
func reported(t *testing.T, p api.Prog, l []api.Run, b api.Budget) []api.Finding {
	t.Helper()
	var all []api.Found
	first := map[api.Found][]api.Pick{}
	for _, r := range l {
		for _, f := range shown(t, p, r.Picks, b) {
			if _, there := first[f]; !there {
				first[f] = r.Picks
			}
			all = append(all, f)
		}
	}
	var report []api.Finding
	for _, f := range unlike(all) {
		report = append(report, api.Finding{Found: f, Picks: first[f]})
	}
	return report
}

// same tells whether two findings are.
func same(a, b api.Finding) bool { return a.Found == b.Found && slices.Equal(a.Picks, b.Picks) }

// found are the things that findings have found.
func found(l []api.Finding) []api.Found {
	var some []api.Found
	for _, f := range l {
		some = append(some, f.Found)
	}
	return some
}

// cloned are findings in memory of their own.
func cloned(l []api.Finding) []api.Finding {
	l = slices.Clone(l)
	for i := range l {
		l[i].Picks = slices.Clone(l[i].Picks)
	}
	return l
}

// task is a program, picks of it, and a budget.
type task struct {
	p     api.Prog
	picks []api.Pick
	b     api.Budget
}

// tasks are sampled programs, with picks and all kinds of budgets.
func tasks(t *testing.T, n uint64) []task {
	t.Helper()
	var l []task
	for seed := range n {
		p := sample.Small(seed)
		switch seed % 8 {
		case 3:
			p = sample.Prog(seed)
		case 1, 5:
			p = sample.Racy(seed)
		}
		b := api.Budget{Steps: int(seed % 13), Fuel: int(seed * 7 % 31), Runs: int(seed * 13 % 101)}
		if seed%3 == 0 {
			b = api.Budget{Steps: 20, Fuel: 30, Runs: 400}
		}
		picks, e := sched.Choose(p, sample.Choices(seed, int(seed*5%31)), b)
		if e != api.OK {
			t.Fatal(e)
		}
		l = append(l, task{p, picks, b})
	}
	return l
}

// spoil makes all members of a list, and its spare room, something else.
func spoil[T any](l []T, odd T) {
	l = l[:cap(l)]
	for i := range l {
		l[i] = odd
	}
}
