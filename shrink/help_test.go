package shrink_test

import (
	"math"
	"slices"
	"testing"

	"scarab/api"
	"scarab/asm"
	"scarab/sample"
	"scarab/sched"
	"scarab/verdict"
)

// far are numbers that are out of most ranges.
var far = []int{math.MinInt, math.MinInt32, -2, -1, 1 << 17, 1 << 32, math.MaxInt - 1, math.MaxInt}

// Programs that are gone through often.
const (
	// one goroutine, one step.
	lone = "scarab\nfunc 0 0\nyield\nend"
	// main spawns one that yields, and yields itself.
	pair = "scarab\nfunc 0 0\nspawn _ f1 r0\nyield\nend\nfunc 0 0\nyield\nend"
	// main locks a lock twice.
	twice = "scarab\nmutex\nfunc 0 0\nlock l0\nlock l0\nend"
	// main and another one yield, and store to one plain variable.
	stores = "scarab\nvar 0\nfunc 0 1\nspawn _ f1 r0\nyield\nstore v0 r0\nend\nfunc 0 1\nyield\nstore v0 r0\nend"
	// main's assertion fails at its second step, whatever another one does, which yields for ever.
	fails = "scarab\nfunc 0 1\nspawn _ f1 r0\nyield\nassert r0 0\nend\nfunc 0 0\nyield\njump @0"
	// main's assertion fails at its second step, which waits for another one, of three steps.
	waits = "scarab\nfunc 0 2\nspawn r1 f1 r0\njoin r1\nassert r0 0\nend\nfunc 0 0\nyield\nyield\nyield\nend"
	// two take two locks, each first the other one's second; a third one yields.
	crossed = `scarab
		mutex
		mutex
		func 0 0
		spawn _ f1 r0
		spawn _ f2 r0
		lock l0
		lock l1
		end
		func 0 0
		lock l1
		lock l0
		end
		func 0 0
		yield
		yield
		end`
)

// parsed is the program of a text.
func parsed(t *testing.T, text string) api.Prog {
	t.Helper()
	p, e, line := asm.Parse(text)
	if e != api.OK {
		t.Fatalf("%v in line %d of %s", e, line, text)
	}
	return p
}

// gos are picks of goroutines, each by its alternative 0.
func gos(l ...int) []api.Pick {
	var picks []api.Pick
	for _, g := range l {
		picks = append(picks, api.Pick{Go: g})
	}
	return picks
}

// budget is a budget with enough fuel.
func budget(steps, runs int) api.Budget { return api.Budget{Steps: steps, Fuel: 50, Runs: runs} }

// plenty is a budget that is enough for all small programs that end.
var plenty = budget(40, 1000)

// at is something that was found at a place.
func at(kind, f, pc int) api.Found {
	return api.Found{Kind: kind, A: api.Spot{Func: f, PC: pc}}
}

// race is the race that stores shows.
var race = api.Found{Kind: api.KindRace, A: api.Spot{PC: 2}, B: api.Spot{Func: 1, PC: 1}}

// movesOf are the moves of picks, by the chapter's words.
func movesOf(picks []api.Pick) [][]api.Pick {
	var l, blocks [][]api.Pick
	for k := range picks {
		l = append(l, picks[:k])
	}
	for i := range picks {
		var rest []api.Pick
		for k, pick := range picks {
			if k < i || pick.Go != picks[i].Go {
				rest = append(rest, pick)
			}
		}
		l = append(l, rest)
	}
	for k, pick := range picks {
		if k == 0 || pick.Go != picks[k-1].Go {
			blocks = append(blocks, nil)
		}
		blocks[len(blocks)-1] = append(blocks[len(blocks)-1], pick)
	}
	for k := range max(0, len(blocks)-1) {
		other := slices.Clone(blocks)
		other[k], other[k+1] = other[k+1], other[k]
		l = append(l, slices.Concat(other...))
	}
	return l
}

// isShorter tells whether picks are shorter than others, by the chapter's words.
func isShorter(a, b []api.Pick) bool {
	return len(a) < len(b) || len(a) == len(b) && switches(a) < switches(b)
}

// switches is how often picks go from one goroutine to another.
func switches(picks []api.Pick) int {
	n := 0
	for k, pick := range picks {
		if k > 0 && picks[k-1].Go != pick.Go {
			n++
		}
	}
	return n
}

// shorterOf are the moves that are shorter than picks, in their order.
func shorterOf(picks []api.Pick) [][]api.Pick {
	return slices.DeleteFunc(movesOf(picks), func(l []api.Pick) bool { return !isShorter(l, picks) })
}

// fits tells whether picks are legal, and show something.
func fits(t *testing.T, p api.Prog, picks []api.Pick, f api.Found, b api.Budget) bool {
	t.Helper()
	n, e := sched.Legal(p, picks, b)
	if e != api.OK {
		t.Fatal(e)
	}
	if n < len(picks) {
		return false
	}
	is, e := verdict.Shows(p, picks, f, b)
	if e != api.OK {
		t.Fatal(e)
	}
	return is
}

// shrunk are picks made shorter, and how many moves are tried, by the chapter's words.
func shrunk(t *testing.T, p api.Prog, picks []api.Pick, f api.Found, b api.Budget) ([]api.Pick, int) {
	t.Helper()
	l := shorterOf(picks)
	i := slices.IndexFunc(l, func(move []api.Pick) bool { return fits(t, p, move, f, b) })
	if i < 0 {
		return picks, len(l)
	}
	least, tries := shrunk(t, p, l[i], f, b)
	return least, tries + i + 1
}

// task is a program, picks of it, something that they show, and a budget.
type task struct {
	p     api.Prog
	picks []api.Pick
	f     api.Found
	b     api.Budget
}

// tasks are sampled programs, with picks that show something.
func tasks(t *testing.T, n uint64) []task {
	t.Helper()
	var l []task
	for seed := range n {
		p := sample.Small(seed)
		switch seed % 8 {
		case 3:
			p = sample.Prog(seed)
		case 1, 5:
			p = sample.Racy(seed)
		}
		b := api.Budget{Steps: int(seed % 23), Fuel: int(seed * 7 % 31)}
		if seed%3 == 0 {
			b = api.Budget{Steps: 30, Fuel: 30}
		}
		picks, e := sched.Choose(p, sample.Choices(seed, int(seed*5%31)), b)
		if e != api.OK {
			t.Fatal(e)
		}
		found, e := verdict.Of(p, picks, b)
		if e != api.OK {
			t.Fatal(e)
		}
		for _, f := range found {
			l = append(l, task{p, picks, f, b})
		}
	}
	return l
}

// same tells whether two findings are.
func same(a, b api.Finding) bool { return a.Found == b.Found && slices.Equal(a.Picks, b.Picks) }

// spoil makes all members of a list, and its spare room, something else.
func spoil[T any](l []T, odd T) {
	l = l[:cap(l)]
	for i := range l {
		l[i] = odd
	}
}
