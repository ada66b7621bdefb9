package source_test

import (
	"cmp"
	"math"
	"slices"
	"testing"

	"scarab/api"
	"scarab/asm"
	"scarab/sample"
	"scarab/sched"
	"scarab/step"
)

// far are numbers that are out of most ranges.
var far = []int{math.MinInt, math.MinInt32, -2, -1, 1 << 17, 1 << 32, math.MaxInt - 1, math.MaxInt}

// Programs that are gone through often.
const (
	// one goroutine, one step.
	lone = "scarab\nfunc 0 0\nyield\nend"
	// one goroutine, no step.
	none = "scarab\nfunc 0 0\nend"
	// main spawns one that yields, and yields itself.
	pair = "scarab\nfunc 0 0\nspawn _ f1 r0\nyield\nend\nfunc 0 0\nyield\nend"
	// main spawns one, and both store to one plain variable.
	stores = "scarab\nvar 0\nfunc 0 1\nspawn _ f1 r0\nstore v0 r0\nend\nfunc 0 1\nconst r0 1\nstore v0 r0\nend"
	// main holds a lock that another one waits for, a third one yields.
	waits = "scarab\nmutex\nfunc 0 0\nlock l0\nspawn _ f1 r0\nspawn _ f2 r0\nunlock l0\nend\nfunc 0 0\nlock l0\nend\nfunc 0 0\nyield\nend"
	// main and 3 store to one variable, 1 and 2 to another one.
	couples = "scarab\nvar 0\nvar 0\nfunc 0 1\nspawn _ f1 r0\nspawn _ f1 r0\nspawn _ f2 r0\nstore v0 r0\nend\nfunc 0 1\nstore v1 r0\nend\nfunc 0 1\nstore v0 r0\nend"
	// a yield for ever.
	ring = "scarab\nfunc 0 0\nyield\njump @0"
	// main stores 1, another one loads, and goes round without a step just if it loaded 1.
	spins = `scarab
		atomic 0
		func 0 1
		spawn _ f1 r0
		const r0 1
		store v0 r0
		end
		func 0 1
		load r0 v0
		if r0 @1
		end`
)

// parsed is the program of a text.
func parsed(t *testing.T, text string) api.Prog {
	t.Helper()
	p, e, line := asm.Parse(text)
	if e != api.OK {
		t.Fatalf("%v in line %d of %s", e, line, text)
	}
	return p
}

// gos are picks of goroutines, each by its alternative 0.
func gos(l ...int) []api.Pick {
	var picks []api.Pick
	for _, g := range l {
		picks = append(picks, api.Pick{Go: g})
	}
	return picks
}

// budget is a budget with enough fuel.
func budget(steps, runs int) api.Budget { return api.Budget{Steps: steps, Fuel: 50, Runs: runs} }

// plenty is a budget that is enough for all small programs that end.
var plenty = budget(40, 1000)

// ran is what picks did, and the picks that can be taken behind them.
func ran(t *testing.T, p api.Prog, picks []api.Pick, fuel int) (api.Trace, []api.Pick) {
	t.Helper()
	x, e, at := sched.Run(p, picks, api.Budget{Steps: api.MaxSteps, Fuel: fuel})
	if e != api.OK {
		t.Fatalf("%v at %d of %v", e, at, picks)
	}
	l, e := step.Ready(p, x.End)
	if e != api.OK {
		t.Fatal(e)
	}
	return x, l
}

// has tells whether a goroutine has one of picks.
func has(picks []api.Pick, g int) bool {
	return slices.ContainsFunc(picks, func(pick api.Pick) bool { return pick.Go == g })
}

// meets tells whether accesses clash, one by one.
func meets(a, b []api.Access) bool {
	for _, x := range a {
		for _, y := range b {
			if x.Kind == y.Kind && x.Num == y.Num && (x.Write || y.Write) {
				return true
			}
		}
	}
	return false
}

// depends tells whether what is touched clashes with one of events.
func depends(l []api.Event, touch []api.Access) bool {
	return slices.ContainsFunc(l, func(x api.Event) bool { return meets(x.Touch[:x.Touches], touch) })
}

// firstOf is the place of a goroutine's first event, -1 if it has none.
func firstOf(l []api.Event, g int) int {
	return slices.IndexFunc(l, func(x api.Event) bool { return x.Go == g })
}

// initials are those of events, by the chapter's words.
func initials(l []api.Event) []int {
	var set []int
	for g := range api.MaxGos {
		if i := firstOf(l, g); i >= 0 && !depends(l[:i], l[i].Touch[:l[i].Touches]) {
			set = append(set, g)
		}
	}
	return set
}

// weak are the weak initials behind picks of the events of more, by the chapter's words.
func weak(t *testing.T, p api.Prog, picks, more []api.Pick, fuel int) []int {
	t.Helper()
	x, _ := ran(t, p, slices.Concat(picks, more), fuel)
	tail := x.Events[len(picks):]
	at, open := ran(t, p, picks, fuel)
	set := initials(tail)
	for g := range api.MaxGos {
		if !has(open, g) || firstOf(tail, g) >= 0 {
			continue
		}
		touch, e := step.Touch(p, at.End, g)
		if e != api.OK {
			t.Fatal(e)
		}
		if !depends(tail, touch) {
			set = append(set, g)
		}
	}
	slices.Sort(set)
	return set
}

// isSpun tells whether a goroutine of a state is spun.
func isSpun(s api.State) bool {
	return slices.ContainsFunc(s.Gos[:], func(it api.Go) bool { return it.Status == api.GoSpun })
}

// found is what the runs behind picks ask for: of each run that goes on its initials; and whether all were seen.
type found struct {
	asks [][]int
	all  bool
}

// byPicks tells which of two schedules comes first: pick by pick, by goroutine and alternative.
func byPicks(a, b []api.Pick) int {
	return slices.CompareFunc(a, b, func(x, y api.Pick) int {
		return cmp.Or(cmp.Compare(x.Go, y.Go), cmp.Compare(x.Alt, y.Alt))
	})
}

// worked is what the runs behind picks ask for, worked out length by length from the legal schedules; false, if there are
// more than most at some length.
func worked(t *testing.T, p api.Prog, picks []api.Pick, b api.Budget, most int) (found, bool) {
	t.Helper()
	var runs [][]api.Pick
	var cut, spun bool
	now := [][]api.Pick{picks}
	for n := len(picks); len(now) > 0; n++ {
		var next [][]api.Pick
		for _, l := range now {
			x, open := ran(t, p, l, b.Fuel)
			spun = spun || isSpun(x.End)
			if len(open) == 0 || n == b.Steps {
				runs = append(runs, l)
				cut = cut || len(open) > 0
				continue
			}
			for _, pick := range open {
				next = append(next, append(slices.Clone(l), pick))
			}
		}
		if now = next; len(now)+len(runs) > most {
			return found{}, false
		}
	}
	slices.SortFunc(runs, byPicks)
	f := found{all: len(runs) <= b.Runs && !cut && !spun}
	for _, l := range runs[:min(len(runs), b.Runs)] {
		if len(l) > len(picks) {
			x, _ := ran(t, p, l, b.Fuel)
			f.asks = append(f.asks, initials(x.Events[len(picks):]))
		}
	}
	return f, true
}

// isSource tells whether each run that goes on has an initial in a set.
func (f found) isSource(set []int) bool {
	for _, l := range f.asks {
		if !slices.ContainsFunc(l, func(g int) bool { return slices.Contains(set, g) }) {
			return false
		}
	}
	return true
}

// least is, of the source sets with the fewest members, the first one.
func (f found) least() []int {
	for _, set := range allSets() {
		if f.isSource(set) {
			return set
		}
	}
	return nil
}

// allSets are all sets of goroutines as rising lists: those with the fewest members first, of these in order.
func allSets() [][]int {
	l := [][]int{nil}
	for g := range api.MaxGos {
		for _, set := range slices.Clone(l) {
			l = append(l, append(slices.Clone(set), g))
		}
	}
	slices.SortFunc(l, func(a, b []int) int { return cmp.Or(cmp.Compare(len(a), len(b)), slices.Compare(a, b)) })
	return l
}

// task is a program, picks of it, and a budget.
type task struct {
	p     api.Prog
	picks []api.Pick
	b     api.Budget
}

// tasks are sampled programs, with picks and all kinds of budgets.
func tasks(t *testing.T, n uint64) []task {
	t.Helper()
	var l []task
	for seed := range n {
		p := sample.Small(seed)
		switch seed % 8 {
		case 3:
			p = sample.Prog(seed)
		case 1, 5:
			p = sample.Racy(seed)
		}
		b := api.Budget{Steps: int(seed % 13), Fuel: int(seed * 7 % 31), Runs: int(seed * 13 % 101)}
		if seed%3 == 0 {
			b = api.Budget{Steps: 20, Fuel: 30, Runs: 400}
		}
		picks, e := sched.Choose(p, sample.Choices(seed, int(seed*5%7)), b)
		if e != api.OK {
			t.Fatal(e)
		}
		l = append(l, task{p, picks, b})
	}
	return l
}

// spoil makes all members of a list, and its spare room, something else.
func spoil[T any](l []T, odd T) {
	l = l[:cap(l)]
	for i := range l {
		l[i] = odd
	}
}
