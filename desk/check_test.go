package desk_test

import (
	"encoding/hex"
	"slices"
	"strings"
	"testing"

	"scarab/api"
	"scarab/desk"
	"scarab/prog"
)

// isZero tells whether a result says nothing.
func isZero(r api.Result) bool {
	return r.Verdict == 0 && r.Code == api.OK && r.Runs == 0 && len(r.Findings) == 0
}

// malformed asks that Check tells, by each mode and whatever the budget, that bytes are no program's.
func malformed(t *testing.T, what string, b []byte, want api.Errno) {
	t.Helper()
	for mode := range modes {
		for _, u := range []api.Budget{{}, plenty, {Steps: api.MaxSteps, Fuel: api.MaxFuel, Runs: api.MaxRuns}} {
			r, e := desk.Check(b, mode, u)
			if e != api.OK || r.Verdict != api.Malformed || r.Code != want || r.Runs != 0 || len(r.Findings) > 0 {
				t.Errorf("%s: mode %d: %v %v, not %v", what, mode, r, e, want)
			}
		}
	}
}

// 28.1: bytes that are no program's.
func TestMalformed(t *testing.T) {
	b := encoded(t, parsed(t, stores))
	malformed(t, "nothing", nil, api.ErrMagic)
	malformed(t, "one fewer", b[:len(b)-1], api.ErrShort)
	malformed(t, "nine", b[:9], api.ErrShort)
	malformed(t, "one more", append(slices.Clone(b), 0), api.ErrRest)
	for i := range b {
		other := slices.Clone(b)
		other[i] ^= 1
		r, e := desk.Check(other, api.ModeTree, plenty)
		if e != api.OK || r.Verdict != api.Malformed || r.Code == api.OK || r.Runs != 0 || len(r.Findings) > 0 {
			t.Errorf("turned at %d: %v %v", i, r, e)
		}
	}
	malformed(t, "MaxBytes", append(slices.Clone(b), make([]byte, api.MaxBytes-len(b))...), api.ErrRest)
	malformed(t, "more than MaxBytes", append(slices.Clone(b), make([]byte, api.MaxBytes-len(b)+1)...), api.ErrLong)
	malformed(t, "far more", make([]byte, 1<<20), api.ErrLong)
	// a code whose end is fallen off: all is well with its bytes, the program is not right.
	fallen, _ := hex.DecodeString(summed(t, "5343524201 00 00 00 01 00000001 40"))
	malformed(t, "no right program", fallen, api.ErrFall)
}

// 28.1: a mode, then a budget that is wrong: these are told ahead of bytes that are no program's.
func TestWrongCheck(t *testing.T) {
	good, long := encoded(t, parsed(t, lone)), make([]byte, api.MaxBytes+1)
	ask := func(b []byte, mode int, u api.Budget, want api.Errno) {
		t.Helper()
		if r, e := desk.Check(b, mode, u); e != want || !isZero(r) {
			t.Errorf("mode %d, %v: %v %v, not %v", mode, u, r, e, want)
		}
	}
	for _, b := range [][]byte{good, nil, long} {
		for _, mode := range append(slices.Clone(far), 0, 5, 6) {
			ask(b, mode, plenty, api.ErrArg)
			ask(b, mode, api.Budget{Steps: -1}, api.ErrArg)
		}
		for mode := range modes {
			for _, n := range far {
				ask(b, mode, api.Budget{Steps: n}, api.ErrBudget)
				ask(b, mode, api.Budget{Fuel: n}, api.ErrBudget)
				ask(b, mode, api.Budget{Runs: n}, api.ErrBudget)
			}
			ask(b, mode, api.Budget{Steps: api.MaxSteps + 1}, api.ErrBudget)
			ask(b, mode, api.Budget{Fuel: api.MaxFuel + 1}, api.ErrBudget)
			ask(b, mode, api.Budget{Runs: api.MaxRuns + 1}, api.ErrBudget)
		}
	}
}

// 28.1: Seen's errors: the program, the mode, the budget.
func TestWrongSeen(t *testing.T) {
	p := parsed(t, lone)
	bad := prog.Copy(p)
	bad.Funcs[0].Code[0].A = 1
	ask := func(p api.Prog, mode int, u api.Budget, want api.Errno) {
		t.Helper()
		if r, e := desk.Seen(p, mode, u); e != want || len(r.All) > 0 || r.Complete {
			t.Errorf("mode %d, %v: %v %v, not %v", mode, u, r, e, want)
		}
	}
	for _, n := range far {
		for _, u := range []api.Budget{plenty, {Steps: n}, {Fuel: n}, {Runs: n}} {
			for _, p := range []api.Prog{bad, {}} {
				ask(p, n, u, api.ErrProg)
				ask(p, api.ModeTree, u, api.ErrProg)
			}
			for _, mode := range []int{n, 0, 5} {
				ask(p, mode, u, api.ErrArg)
			}
			for mode := range modes {
				if u != plenty {
					ask(p, mode, u, api.ErrBudget)
				}
			}
		}
	}
}

// says asks what Check says of the program of a text, by each mode.
func says(t *testing.T, what, text string, u api.Budget, verdict int, runs map[int]int, want ...api.Finding) {
	t.Helper()
	for mode := range modes {
		r := checked(t, parsed(t, text), mode, u)
		if r.Verdict != verdict || r.Code != api.OK || !slices.EqualFunc(r.Findings, want, same) {
			t.Errorf("%s: mode %d: %v, not %v", what, mode, r, want)
		}
		if n, there := runs[mode]; there && r.Runs != n || !there && r.Runs != runs[0] {
			t.Errorf("%s: mode %d: %d runs", what, mode, r.Runs)
		}
	}
}

// 28.1: the examples of the whole.
func TestExamplesOfTheWhole(t *testing.T) {
	each := func(n int) map[int]int { return map[int]int{0: n} }
	at := func(kind, f, pc int) api.Found { return api.Found{Kind: kind, A: api.Spot{Func: f, PC: pc}} }
	says(t, "1", lone, api.Budget{Steps: 1, Fuel: 1, Runs: 1}, api.Complete, each(1))
	says(t, "2", twice, plenty, api.Complete, each(1), api.Finding{Found: at(api.KindDeadlock, 0, 1), Picks: gos(0)})
	race := api.Found{Kind: api.KindRace, A: api.Spot{PC: 1}, B: api.Spot{Func: 1}}
	says(t, "3", stores, plenty, api.Complete, each(2), api.Finding{Found: race, Picks: gos(0, 0, 1)})
	says(t, "4", strings.Replace(stores, "var 0", "atomic 0", 1), plenty, api.Complete, each(2))
	left := "scarab\nchan 0\nfunc 0 0\nspawn _ f1 r0\nend\nfunc 0 1\nsend c0 r0\nend\n"
	says(t, "6", left, plenty, api.Complete, each(1), api.Finding{Found: at(api.KindLeak, 1, 0), Picks: gos(0, 1)})
	divides := "scarab\nfunc 0 2\nyield\nconst r0 1\ndiv r0 r0 r1\nend\n"
	says(t, "7", divides, plenty, api.Complete, each(1), api.Finding{Found: api.Found{Kind: api.KindFault, A: api.Spot{PC: 2}, Why: api.WhyZero}, Picks: gos(0)})
	says(t, "8", pair, plenty, api.Complete, map[int]int{0: 1, api.ModeTree: 2})
	says(t, "9", loops, plenty, api.Exceeded, each(1))
	says(t, "9", loops, api.Budget{Steps: api.MaxSteps, Fuel: api.MaxFuel, Runs: api.MaxRuns}, api.Exceeded, each(1))
	for mode := range modes {
		r := checked(t, parsed(t, crossed), mode, plenty)
		if r.Verdict != api.Complete || !slices.EqualFunc(r.Findings, []api.Finding{{Found: at(api.KindDeadlock, 0, 2), Picks: gos(0, 0, 1)}}, same) {
			t.Errorf("5: mode %d: %v", mode, r)
		}
	}
}

// 28.1: what is found counts, be all seen or not: a budget that ends is told.
func TestExceeded(t *testing.T) {
	race := api.Finding{Found: api.Found{Kind: api.KindRace, A: api.Spot{PC: 1}, B: api.Spot{Func: 1}}, Picks: gos(0, 0, 1)}
	says(t, "few runs", stores, api.Budget{Steps: 9, Fuel: 9, Runs: 1}, api.Exceeded, map[int]int{0: 1}, race)
	says(t, "no run", stores, api.Budget{Steps: 9, Fuel: 9}, api.Exceeded, nil)
	says(t, "few steps", stores, api.Budget{Steps: 2, Fuel: 9, Runs: 9}, api.Exceeded, map[int]int{0: 2})
	says(t, "no steps", stores, api.Budget{Fuel: 9, Runs: 9}, api.Exceeded, map[int]int{0: 1})
	// without fuel both are spun behind their stores.
	says(t, "no fuel", stores, api.Budget{Steps: 9, Runs: 9}, api.Exceeded, map[int]int{0: 2}, race)
}

// 28.1: repeats are not counted among the runs.
func TestRepeats(t *testing.T) {
	some := 0
	for i, x := range tasks(t, 200) {
		runs, e := desk.Seen(x.p, api.ModeDpor, x.b)
		if e != api.OK {
			t.Fatal(e)
		}
		n := len(slices.DeleteFunc(slices.Clone(runs.All), func(r api.Run) bool { return r.Repeat }))
		if r := checked(t, x.p, api.ModeDpor, x.b); r.Runs != n {
			t.Errorf("%d: %d runs, not %d", i, r.Runs, n)
		}
		if n < len(runs.All) {
			some++
		}
	}
	if some < 5 {
		t.Errorf("%d with repeats", some)
	}
}
