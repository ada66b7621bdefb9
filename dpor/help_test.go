package dpor_test

import (
	"math"
	"slices"
	"testing"

	"scarab/api"
	"scarab/asm"
	"scarab/canon"
	"scarab/sample"
	"scarab/sched"
	"scarab/state"
	"scarab/step"
)

// far are numbers that are out of most ranges.
var far = []int{math.MinInt, math.MinInt32, -2, -1, 1 << 17, 1 << 32, math.MaxInt - 1, math.MaxInt}

// Programs that are gone through often.
const (
	// one goroutine, one step.
	lone = "scarab\nfunc 0 0\nyield\nend"
	// one goroutine, no step.
	none = "scarab\nfunc 0 0\nend"
	// main spawns one that yields, and yields itself.
	pair = "scarab\nfunc 0 0\nspawn _ f1 r0\nyield\nend\nfunc 0 0\nyield\nend"
	// main spawns one, and both store to one plain variable.
	stores = "scarab\nvar 0\nfunc 0 1\nspawn _ f1 r0\nstore v0 r0\nend\nfunc 0 1\nconst r0 1\nstore v0 r0\nend"
	// main spawns one, and both store to two variables, each first to the other one's second.
	crossed = "scarab\nvar 0\nvar 0\nfunc 0 1\nspawn _ f1 r0\nstore v0 r0\nstore v1 r0\nend\nfunc 0 1\nstore v1 r0\nstore v0 r0\nend"
	// main and another one take one lock, and give it back.
	locked = "scarab\nmutex\nfunc 0 0\nspawn _ f1 r0\nlock l0\nunlock l0\nend\nfunc 0 0\nlock l0\nunlock l0\nend"
	// main holds a lock that another one waits for, a third one yields.
	waits = "scarab\nmutex\nfunc 0 0\nlock l0\nspawn _ f1 r0\nspawn _ f2 r0\nunlock l0\nend\nfunc 0 0\nlock l0\nend\nfunc 0 0\nyield\nend"
	// main stores, and so does one that is spawned by another one.
	later = "scarab\nvar 0\nfunc 0 1\nspawn _ f1 r0\nstore v0 r0\nend\nfunc 0 1\nspawn _ f2 r0\nend\nfunc 0 1\nstore v0 r0\nend"
	// main stores to v0; 1 stores to v1, 2 loads that and stores to v0.
	passed = "scarab\nvar 0\nvar 0\nfunc 0 1\nspawn _ f1 r0\nspawn _ f2 r0\nstore v0 r0\nend\nfunc 0 1\nstore v1 r0\nend\nfunc 0 1\nload r0 v1\nstore v0 r0\nend"
	// main locks a lock twice.
	stuck = "scarab\nmutex\nfunc 0 0\nlock l0\nlock l0\nend"
	// a yield for ever.
	ring = "scarab\nfunc 0 0\nyield\njump @0"
	// main stores 1, another one loads, and goes round without a step just if it loaded 1.
	spins = `scarab
		atomic 0
		func 0 1
		spawn _ f1 r0
		const r0 1
		store v0 r0
		end
		func 0 1
		load r0 v0
		if r0 @1
		end`
)

// parsed is the program of a text.
func parsed(t *testing.T, text string) api.Prog {
	t.Helper()
	p, e, line := asm.Parse(text)
	if e != api.OK {
		t.Fatalf("%v in line %d of %s", e, line, text)
	}
	return p
}

// gos are picks of goroutines, each by its alternative 0.
func gos(l ...int) []api.Pick {
	var picks []api.Pick
	for _, g := range l {
		picks = append(picks, api.Pick{Go: g})
	}
	return picks
}

// budget is a budget with enough fuel.
func budget(steps, runs int) api.Budget { return api.Budget{Steps: steps, Fuel: 50, Runs: runs} }

// plenty is a budget that is enough for all small programs that end.
var plenty = budget(40, 1000)

// whole is a run of goroutines that is not cut, cut one that is, again one that is a repeat.
func whole(l ...int) api.Run { return api.Run{Picks: gos(l...)} }
func cut(l ...int) api.Run   { return api.Run{Picks: gos(l...), Cut: true} }
func again(l ...int) api.Run { return api.Run{Picks: gos(l...), Repeat: true} }

// same tells whether two runs are.
func same(a, b api.Run) bool {
	return slices.Equal(a.Picks, b.Picks) && a.Cut == b.Cut && a.Repeat == b.Repeat
}

// ran is what picks did, and the picks that can be taken behind them.
func ran(t *testing.T, p api.Prog, picks []api.Pick, fuel int) (api.Trace, []api.Pick) {
	t.Helper()
	x, e, at := sched.Run(p, picks, api.Budget{Steps: api.MaxSteps, Fuel: fuel})
	if e != api.OK {
		t.Fatalf("%v at %d of %v", e, at, picks)
	}
	l, e := step.Ready(p, x.End)
	if e != api.OK {
		t.Fatal(e)
	}
	return x, l
}

// has tells whether a goroutine has one of picks.
func has(picks []api.Pick, g int) bool {
	return slices.ContainsFunc(picks, func(pick api.Pick) bool { return pick.Go == g })
}

// meets tells whether accesses clash, one by one.
func meets(a, b []api.Access) bool {
	for _, x := range a {
		for _, y := range b {
			if x.Kind == y.Kind && x.Num == y.Num && (x.Write || y.Write) {
				return true
			}
		}
	}
	return false
}

// touch is what a goroutine's next step touches.
func touch(t *testing.T, p api.Prog, s api.State, g int) []api.Access {
	t.Helper()
	l, e := step.Touch(p, s, g)
	if e != api.OK {
		t.Fatalf("%d: %v", g, e)
	}
	return l
}

// behind tells of each event whether it is behind a goroutine, by the chapter's words.
func behind(l []api.Event, g int) []bool {
	is := make([]bool, len(l))
	// from the end on, all that an event happens before is settled.
	for i := len(l) - 1; i >= 0; i-- {
		x := l[i]
		is[i] = x.Go == g || x.Op == api.OpSpawn && g > 0 && x.Val == int64(g)
		for j := i + 1; j < len(l); j++ {
			is[i] = is[i] || is[j] && meets(x.Touch[:x.Touches], l[j].Touch[:l[j].Touches])
		}
	}
	return is
}

// race is a live goroutine's race, by the chapter's words.
func race(t *testing.T, p api.Prog, x api.Trace, g int) int {
	t.Helper()
	is := behind(x.Events, g)
	mine := touch(t, p, x.End, g)
	last := -1
	for i, o := range x.Events {
		if !is[i] && meets(o.Touch[:o.Touches], mine) {
			last = i
		}
	}
	return last
}

// model is the search as the chapter words it: who is wanted at each place, and who was gone through there, are lists.
type model struct {
	t      *testing.T
	p      api.Prog
	b      api.Budget
	most   int
	all    []api.Run
	spun   bool
	wanted [][]int
	told   struct{ least, wantedAlready, none, waits, other int }
}

// want is the search's first point.
func (m *model) want(x api.Trace, picks, open []api.Pick) {
	for _, g := range state.Live(x.End) {
		i := race(m.t, m.p, x, g)
		if i < 0 {
			continue
		}
		is := behind(x.Events, g)
		_, there := ran(m.t, m.p, picks[:i], m.b.Fuel)
		var set, ready []int
		for q := range api.MaxGos {
			if !has(there, q) {
				continue
			}
			ready = append(ready, q)
			fits := q == g
			for j := i + 1; j < len(picks); j++ {
				fits = fits || picks[j].Go == q && is[j]
			}
			if fits {
				set = append(set, q)
			}
		}
		switch {
		case len(set) == 0:
			m.wanted[i] = append(m.wanted[i], ready...)
			m.told.none++
		case slices.ContainsFunc(set, func(q int) bool { return slices.Contains(m.wanted[i], q) }):
			m.told.wantedAlready++
		default:
			m.wanted[i] = append(m.wanted[i], set[0])
			if len(set) > 1 {
				m.told.least++
			}
			if set[0] != g {
				m.told.other++
			}
			if !has(open, g) {
				m.told.waits++
			}
		}
	}
}

// on is the search behind picks.
func (m *model) on(picks []api.Pick, z []int, repeat bool) {
	if len(m.all) > m.most {
		return
	}
	x, open := ran(m.t, m.p, picks, m.b.Fuel)
	m.spun = m.spun || isSpun(x.End)
	m.want(x, picks, open)
	if len(open) == 0 || len(picks) == m.b.Steps {
		m.all = append(m.all, api.Run{Picks: picks, Cut: len(open) > 0, Repeat: repeat})
		return
	}
	awake := slices.DeleteFunc(slices.Clone(open), func(pick api.Pick) bool { return slices.Contains(z, pick.Go) })
	n := len(picks)
	m.wanted = append(m.wanted, []int{append(awake, open...)[0].Go})
	var gone []int
	for {
		left := slices.DeleteFunc(slices.Clone(m.wanted[n]), func(g int) bool { return slices.Contains(gone, g) })
		if len(left) == 0 {
			break
		}
		g := slices.Min(left)
		var sleepers []int
		for _, h := range append(slices.Clone(z), gone...) {
			if h != g && !meets(touch(m.t, m.p, x.End, h), touch(m.t, m.p, x.End, g)) {
				sleepers = append(sleepers, h)
			}
		}
		for _, pick := range open {
			if pick.Go == g {
				m.on(append(slices.Clone(picks), pick), sleepers, repeat || slices.Contains(z, g))
			}
		}
		gone = append(gone, g)
	}
	m.wanted = m.wanted[:n]
}

// isSpun tells whether a goroutine of a state is spun.
func isSpun(s api.State) bool {
	return slices.ContainsFunc(s.Gos[:], func(it api.Go) bool { return it.Status == api.GoSpun })
}

// key is the key of a run.
func key(t *testing.T, p api.Prog, picks []api.Pick, b api.Budget) string {
	t.Helper()
	x, e, _ := sched.Run(p, picks, b)
	if e != api.OK {
		t.Fatal(e)
	}
	k, e := canon.Key(x.Events)
	if e != api.OK {
		t.Fatal(e)
	}
	return k
}

// keys are the keys of the runs that are no repeats, or of those that are, in their order.
func keys(t *testing.T, p api.Prog, l []api.Run, b api.Budget, repeats bool) []string {
	t.Helper()
	var all []string
	for _, r := range l {
		if r.Repeat == repeats {
			all = append(all, key(t, p, r.Picks, b))
		}
	}
	return all
}

// task is a program and a budget.
type task struct {
	p api.Prog
	b api.Budget
}

// tasks are sampled programs, with all kinds of budgets.
func tasks(n uint64) []task {
	var l []task
	for seed := range n {
		p := sample.Small(seed)
		switch seed % 8 {
		case 3:
			p = sample.Prog(seed)
		case 1, 5:
			p = sample.Racy(seed)
		}
		b := api.Budget{Steps: int(seed % 13), Fuel: int(seed * 7 % 31), Runs: int(seed * 13 % 41)}
		if seed%3 == 0 {
			b = api.Budget{Steps: 20, Fuel: 30, Runs: 400}
		}
		l = append(l, task{p, b})
	}
	return l
}

// spoil makes all members of a list, and its spare room, something else.
func spoil[T any](l []T, odd T) {
	l = l[:cap(l)]
	for i := range l {
		l[i] = odd
	}
}
