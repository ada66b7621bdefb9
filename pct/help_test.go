package pct_test

import (
	"math"
	"slices"
	"strings"
	"testing"

	"scarab/api"
	"scarab/asm"
	"scarab/pct"
	"scarab/sample"
	"scarab/sched"
	"scarab/step"
)

// far are numbers that are out of most ranges.
var far = []int{math.MinInt, math.MinInt32, -2, -1, 1 << 17, 1 << 32, math.MaxInt - 1, math.MaxInt}

// Programs that are gone through often.
const (
	// one goroutine, one step.
	lone = "scarab\nfunc 0 0\nyield\nend"
	// one goroutine, no step.
	none = "scarab\nfunc 0 0\nend"
	// main spawns one that yields, and yields itself.
	pair = "scarab\nfunc 0 0\nspawn _ f1 r0\nyield\nend\nfunc 0 0\nyield\nend"
	// main spawns two that yield, and yields itself.
	three = "scarab\nfunc 0 0\nspawn _ f1 r0\nspawn _ f1 r0\nyield\nend\nfunc 0 0\nyield\nend"
	// main holds a lock that another one waits for, a third one yields twice.
	waits = "scarab\nmutex\nfunc 0 0\nlock l0\nspawn _ f1 r0\nspawn _ f2 r0\nunlock l0\nend\nfunc 0 0\nlock l0\nend\nfunc 0 0\nyield\nyield\nend"
	// a yield for ever.
	ring = "scarab\nfunc 0 0\nyield\njump @0"
	// main spawns five that yield for ever, and does so itself.
	rings = "scarab\nfunc 0 0\nspawn _ f1 r0\nspawn _ f1 r0\nspawn _ f1 r0\nspawn _ f1 r0\nspawn _ f1 r0\nyield\njump @5\nfunc 0 0\nyield\njump @0"
	// main fills the second of two channels, and selects from both till nothing is there; another one fills the first.
	choice = `scarab
		chan 1
		chan 1
		func 0 1
		choose @3
		onrecv c0 r0 @2
		onrecv c1 r0 @2
		send c1 r0
		spawn _ f1 r0
		select s0
		end
		func 0 1
		send c0 r0
		end`
	// main stores 1, another one loads, and goes round without a step just if it loaded 1.
	spins = `scarab
		atomic 0
		func 0 1
		spawn _ f1 r0
		const r0 1
		store v0 r0
		end
		func 0 1
		load r0 v0
		if r0 @1
		end`
)

// lasting is a program whose main goroutine spawns one that yields, and yields itself so often.
func lasting(yields int) string {
	return "scarab\nfunc 0 0\nspawn _ f1 r0\n" + strings.Repeat("yield\n", yields) + "end\nfunc 0 0\nyield\nend"
}

// late are the picks of a run of it in which the other goroutine comes at a place.
func late(yields, at int) []api.Pick {
	l := make([]api.Pick, yields+2)
	l[at].Go = 1
	return l
}

// parsed is the program of a text.
func parsed(t *testing.T, text string) api.Prog {
	t.Helper()
	p, e, line := asm.Parse(text)
	if e != api.OK {
		t.Fatalf("%v in line %d of %s", e, line, text)
	}
	return p
}

// gos are picks of goroutines, each by its alternative 0.
func gos(l ...int) []api.Pick {
	var picks []api.Pick
	for _, g := range l {
		picks = append(picks, api.Pick{Go: g})
	}
	return picks
}

// budget is a budget with enough fuel.
func budget(steps, runs int) api.Budget { return api.Budget{Steps: steps, Fuel: 50, Runs: runs} }

// plenty is a budget that is enough for all small programs that end.
var plenty = budget(40, 1000)

// rising is the order in which the numbers rise.
func rising() []int { return []int{0, 1, 2, 3, 4, 5} }

// whole is a run of goroutines that is not cut, cut one that is.
func whole(l ...int) api.Run { return api.Run{Picks: gos(l...)} }
func cut(l ...int) api.Run   { return api.Run{Picks: gos(l...), Cut: true} }

// same tells whether two runs are.
func same(a, b api.Run) bool {
	return slices.Equal(a.Picks, b.Picks) && a.Cut == b.Cut && a.Repeat == b.Repeat
}

// end is the state that picks lead to, and the picks that can be taken there.
func end(t *testing.T, p api.Prog, picks []api.Pick, fuel int) (api.State, []api.Pick) {
	t.Helper()
	x, e, at := sched.Run(p, picks, api.Budget{Steps: api.MaxSteps, Fuel: fuel})
	if e != api.OK {
		t.Fatalf("%v at %d of %v", e, at, picks)
	}
	l, e := step.Ready(p, x.End)
	if e != api.OK {
		t.Fatal(e)
	}
	return x.End, l
}

// fronts are, of picks that are ready, the first one of each goroutine, in an order of these.
func fronts(order []int, ready []api.Pick) []api.Pick {
	var l []api.Pick
	for _, g := range order {
		if i := slices.IndexFunc(ready, func(pick api.Pick) bool { return pick.Go == g }); i >= 0 {
			l = append(l, ready[i])
		}
	}
	return l
}

// last is an order with one of its members put at the end.
func last(order []int, g int) []int {
	return append(slices.DeleteFunc(slices.Clone(order), func(h int) bool { return h == g }), g)
}

// worked is the run by an order and changes, by the chapter's words.
func worked(t *testing.T, p api.Prog, order, changes []int, b api.Budget) []api.Pick {
	t.Helper()
	var picks []api.Pick
	for len(picks) < b.Steps {
		_, ready := end(t, p, picks, b.Fuel)
		if len(ready) == 0 {
			break
		}
		for _, c := range changes {
			if c == len(picks) {
				order = last(order, fronts(order, ready)[0].Go)
			}
		}
		picks = append(picks, fronts(order, ready)[0])
	}
	return picks
}

// guided are the changes that a schedule asks for, by the chapter's words; false, if one of its picks is no first one.
func guided(t *testing.T, p api.Prog, picks []api.Pick, fuel int) ([]int, bool) {
	t.Helper()
	var changes []int
	order := rising()
	for i, pick := range picks {
		_, ready := end(t, p, picks[:i], fuel)
		l := fronts(order, ready)
		at := slices.Index(l, pick)
		if at < 0 {
			return nil, false
		}
		for _, front := range l[:at] {
			order = last(order, front.Go)
			changes = append(changes, i)
		}
	}
	return changes, true
}

// orders are those of a sweep of n goroutines: all lists of n numbers, of which those stay that have each one once.
func orders(n int) [][]int {
	l := [][]int{nil}
	for range n {
		var longer [][]int
		for _, order := range l {
			for g := range n {
				if !slices.Contains(order, g) {
					longer = append(longer, append(slices.Clone(order), g))
				}
			}
		}
		l = longer
	}
	for i := range l {
		l[i] = append(l[i], rising()[n:]...)
	}
	return l
}

// changes are the lists of changes of a sweep.
func changes(d int) [][]int {
	var l [][]int
	switch d {
	case 0:
		l = append(l, nil)
	case 1:
		for i := range pct.MaxAt {
			l = append(l, []int{i})
		}
	case 2:
		for i := range pct.MaxAt {
			for j := i + 1; j < pct.MaxAt; j++ {
				l = append(l, []int{i, j})
			}
		}
	}
	return l
}

// swept are all runs of a sweep, by the chapter's words, with what Run tells of each.
func swept(t *testing.T, p api.Prog, n, d int, b api.Budget) []api.Run {
	t.Helper()
	var l []api.Run
	for _, order := range orders(n) {
		for _, list := range changes(d) {
			picks, e := pct.Run(p, order, list, b)
			if e != api.OK {
				t.Fatal(e)
			}
			if !contains(l, picks) {
				_, ready := end(t, p, picks, b.Fuel)
				l = append(l, api.Run{Picks: picks, Cut: len(picks) == b.Steps && len(ready) > 0})
			}
		}
	}
	return l
}

// contains tells whether one of runs has just these picks.
func contains(l []api.Run, picks []api.Pick) bool {
	return slices.ContainsFunc(l, func(r api.Run) bool { return slices.Equal(r.Picks, picks) })
}

// isCut tells whether a run is.
func isCut(r api.Run) bool { return r.Cut }

// task is a program and a budget.
type task struct {
	p api.Prog
	b api.Budget
}

// tasks are sampled programs, with all kinds of budgets.
func tasks(n uint64) []task {
	var l []task
	for seed := range n {
		p := sample.Small(seed)
		switch seed % 8 {
		case 3:
			p = sample.Prog(seed)
		case 1, 5:
			p = sample.Racy(seed)
		}
		b := api.Budget{Steps: int(seed % 13), Fuel: int(seed * 7 % 31), Runs: int(seed * 13 % 41)}
		if seed%3 == 0 {
			b = api.Budget{Steps: 30, Fuel: 30, Runs: 400}
		}
		l = append(l, task{p, b})
	}
	return l
}

// someOrder is an order, one for each seed.
func someOrder(seed uint64) []int {
	l := rising()
	for i, n := range sample.Choices(seed, len(l)) {
		j := int(uint(n) % uint(len(l)))
		l[i], l[j] = l[j], l[i]
	}
	return l
}

// someChanges are changes below most, one list for each seed.
func someChanges(seed uint64, n, most int) []int {
	var l []int
	for _, x := range sample.Choices(seed, n) {
		l = append(l, int(uint(x)%uint(most)))
	}
	slices.Sort(l)
	return l
}

// spoil makes all members of a list, and its spare room, something else.
func spoil[T any](l []T, odd T) {
	l = l[:cap(l)]
	for i := range l {
		l[i] = odd
	}
}
