package witness_test

import (
	"slices"
	"testing"

	"scarab/api"
	"scarab/code"
	"scarab/prog"
	"scarab/sample"
	"scarab/sched"
	"scarab/verdict"
	"scarab/witness"
)

// 27.3: Make and Replay of written-out programs.
func TestMake(t *testing.T) {
	for _, x := range []struct {
		text  string
		f     api.Found
		picks []api.Pick
		b     api.Budget
	}{
		{twice, deadlock, gos(0), plenty},
		{twice, deadlock, gos(0), api.Budget{Steps: 1}},
		{twice, deadlock, gos(0), api.Budget{Steps: 256, Fuel: 4096, Runs: 65536}},
		{stores, race, gos(0, 0, 1), plenty},
		{stores, race, gos(0, 1, 0), plenty},
		{"scarab\nfunc 0 1\nassert r0 0\nend", api.Found{Kind: api.KindAssert}, nil, plenty},
		{"scarab\nfunc 0 1\nyield\nrem r0 r0 r0\nend", api.Found{Kind: api.KindFault, A: api.Spot{PC: 1}, Why: api.WhyZero}, gos(0), plenty},
		{"scarab\nchan 0\nfunc 0 0\nspawn _ f1 r0\nend\nfunc 0 1\nsend c0 r0\nend", api.Found{Kind: api.KindLeak, A: api.Spot{Func: 1}}, gos(0, 1), plenty},
	} {
		p := parsed(t, x.text)
		sum, _ := code.Sum(p)
		want := api.Witness{Sum: sum, Found: x.f, Picks: x.picks, Budget: x.b}
		w, e := witness.Make(p, api.Finding{Found: x.f, Picks: x.picks}, x.b)
		if e != api.OK || !same(w, want) {
			t.Errorf("%v: %v %v, not %v", x.f, w, e, want)
		}
		trace, _, _ := sched.Run(p, x.picks, x.b)
		if r, e := witness.Replay(p, w); e != api.OK || !slices.Equal(r.Events, trace.Events) || r.End != trace.End || r.Cut != trace.Cut {
			t.Errorf("%v: replayed: %v %v", x.f, r, e)
		}
	}
}

// unmade asks for an error of Make.
func unmade(t *testing.T, what string, p api.Prog, f api.Found, picks []api.Pick, b api.Budget, want api.Errno) {
	t.Helper()
	if w, e := witness.Make(p, api.Finding{Found: f, Picks: picks}, b); e != want || !same(w, api.Witness{}) {
		t.Errorf("%s: %v %v, not %v", what, w, e, want)
	}
}

// 27.3: Make's errors, and which of several is told: the program, the picks, the budget, the run, then what it shows.
func TestWrongMake(t *testing.T) {
	p, long := parsed(t, twice), make([]api.Pick, api.MaxSteps+1)
	bad := prog.Copy(p)
	bad.Funcs[0].Code[0].B = 1
	for _, n := range far {
		for _, b := range []api.Budget{{Steps: n}, {Fuel: n}, {Runs: n}} {
			unmade(t, "no program", bad, deadlock, long, b, api.ErrProg)
			unmade(t, "long picks", p, deadlock, long, b, api.ErrLong)
			unmade(t, "no budget", p, deadlock, gos(0), b, api.ErrBudget)
			unmade(t, "no budget, odd picks", p, race, gos(7), b, api.ErrBudget)
		}
		unmade(t, "a pick far off", p, deadlock, []api.Pick{{Go: n}}, plenty, api.ErrPick)
		unmade(t, "an alternative far off", p, deadlock, []api.Pick{{Alt: n}}, plenty, api.ErrPick)
		unmade(t, "a kind far off", p, api.Found{Kind: n}, gos(0), plenty, api.ErrShow)
		unmade(t, "a place far off", p, api.Found{Kind: api.KindDeadlock, A: api.Spot{PC: n}}, gos(0), plenty, api.ErrShow)
	}
	unmade(t, "no program", api.Prog{}, deadlock, gos(0), plenty, api.ErrProg)
	unmade(t, "more than steps", p, deadlock, gos(0, 0), api.Budget{Steps: 1}, api.ErrLong)
	unmade(t, "more than no steps", p, deadlock, gos(0), api.Budget{}, api.ErrLong)
	unmade(t, "not ready", p, deadlock, gos(0, 0), plenty, api.ErrPick)
	unmade(t, "not shown yet", p, deadlock, nil, plenty, api.ErrShow)
	unmade(t, "something else", p, race, gos(0), plenty, api.ErrShow)
	unmade(t, "another place", p, api.Found{Kind: api.KindDeadlock}, gos(0), plenty, api.ErrShow)
	unmade(t, "nothing", p, api.Found{}, gos(0), plenty, api.ErrShow)
}

// unplayed asks for an error of Replay.
func unplayed(t *testing.T, what string, p api.Prog, w api.Witness, want api.Errno) {
	t.Helper()
	if r, e := witness.Replay(p, w); e != want || len(r.Events) > 0 || r.End != (api.State{}) || r.Cut {
		t.Errorf("%s: %v %v, not %v", what, r, e, want)
	}
}

// 27.3: Replay's errors, and which of several is told: the program, the witness, its sum, the run, then what it shows.
func TestWrongReplay(t *testing.T) {
	p := parsed(t, twice)
	sum, _ := code.Sum(p)
	with := func(change func(w *api.Witness)) api.Witness {
		w := api.Witness{Sum: sum, Found: deadlock, Picks: gos(0), Budget: plenty}
		change(&w)
		return w
	}
	bad := prog.Copy(p)
	bad.Funcs[0].Code[0].B = 1
	odd := with(func(w *api.Witness) { w.Sum++; w.Picks = gos(0, 7); w.Found = race })
	unplayed(t, "no program", bad, odd, api.ErrProg)
	unplayed(t, "no program", api.Prog{}, with(func(w *api.Witness) {}), api.ErrProg)
	unplayed(t, "not right", p, odd, api.ErrArg)
	unplayed(t, "nothing", p, api.Witness{}, api.ErrArg)
	unplayed(t, "a wrong budget", p, with(func(w *api.Witness) { w.Budget.Steps = 257 }), api.ErrArg)
	unplayed(t, "long picks", p, with(func(w *api.Witness) { w.Picks = make([]api.Pick, 257) }), api.ErrArg)
	unplayed(t, "another sum", p, with(func(w *api.Witness) { w.Sum++; w.Picks = gos(5); w.Found = race }), api.ErrOther)
	unplayed(t, "another program", parsed(t, stores), with(func(w *api.Witness) {}), api.ErrOther)
	unplayed(t, "more than steps", p, with(func(w *api.Witness) { w.Budget.Steps = 0; w.Found = race }), api.ErrLong)
	unplayed(t, "not ready", p, with(func(w *api.Witness) { w.Picks = gos(0, 0); w.Found = race }), api.ErrPick)
	unplayed(t, "no such goroutine", p, with(func(w *api.Witness) { w.Picks = gos(5) }), api.ErrPick)
	unplayed(t, "something else", p, with(func(w *api.Witness) { w.Found = race }), api.ErrShown)
	unplayed(t, "not shown yet", p, with(func(w *api.Witness) { w.Picks = nil }), api.ErrShown)
	unplayed(t, "another place", p, with(func(w *api.Witness) { w.Found.A.PC = 0 }), api.ErrShown)
	unplayed(t, "a number more", p, with(func(w *api.Witness) { w.Found.Num = 1 }), api.ErrShown)
	if r, e := witness.Replay(p, with(func(w *api.Witness) {})); e != api.OK || len(r.Events) != 1 {
		t.Errorf("%v %v", r, e)
	}
}

// 27.3: what is shown hangs on the budget's fuel; of its steps it asks for no more than there are picks.
func TestBudgetCounts(t *testing.T) {
	// main needs two of fuel behind its yield to fail.
	p := parsed(t, "scarab\nfunc 0 2\nyield\nmove r0 r1\nassert r0 3\nend")
	f := api.Finding{Found: api.Found{Kind: api.KindAssert, A: api.Spot{PC: 2}}, Picks: gos(0)}
	unmade(t, "too little fuel", p, f.Found, f.Picks, api.Budget{Steps: 9, Fuel: 1}, api.ErrShow)
	w, e := witness.Make(p, f, api.Budget{Steps: 9, Fuel: 2})
	if e != api.OK {
		t.Fatal(e)
	}
	w.Budget.Fuel = 1
	unplayed(t, "too little fuel", p, w, api.ErrShown)
	w.Budget = api.Budget{Steps: 1, Fuel: 2}
	if _, e := witness.Replay(p, w); e != api.OK {
		t.Error(e)
	}
}

// 27.4, P5, P9: what Make tells is right, written, read and replayed; it shows what it says.
func TestMadeIsReplayed(t *testing.T) {
	var kinds [api.KindRace + 1]int
	for i, x := range tasks(t, 1500) {
		w, e := witness.Make(x.p, x.f, x.b)
		sum, _ := code.Sum(x.p)
		if e != api.OK || !same(w, api.Witness{Sum: sum, Found: x.f.Found, Picks: x.f.Picks, Budget: x.b}) {
			t.Fatalf("%d: %v %v", i, w, e)
		}
		r, e, at := witness.Read(written(t, w))
		if e != api.OK || at != 0 || !same(r, w) {
			t.Errorf("%d: %v %v %d, not %v", i, r, e, at, w)
		}
		trace, e := witness.Replay(x.p, r)
		want, _, _ := sched.Run(x.p, x.f.Picks, x.b)
		if e != api.OK || !slices.Equal(trace.Events, want.Events) || trace.End != want.End || trace.Cut != want.Cut {
			t.Errorf("%d: %v %v, not %v", i, trace, e, want)
		}
		if is, e := verdict.Shows(x.p, r.Picks, r.Found, r.Budget); !is || e != api.OK {
			t.Errorf("%d: not shown: %v", i, e)
		}
		kinds[x.f.Found.Kind]++
	}
	if slices.Min(kinds[1:]) < 50 {
		t.Errorf("told %v", kinds)
	}
}

// P5: no witness is replayed that does not show what it says.
func TestNoFalseAlarm(t *testing.T) {
	shown, not := 0, 0
	l := tasks(t, 400)
	for i, x := range l {
		sum, _ := code.Sum(x.p)
		for n := range 2 * (len(x.f.Picks) + 1) {
			other := x.f.Found
			if n%2 == 0 {
				other = l[(i*7+3)%len(l)].f.Found
			}
			n /= 2
			is, _ := verdict.Shows(x.p, x.f.Picks[:n], other, x.b)
			_, made := witness.Make(x.p, api.Finding{Found: other, Picks: x.f.Picks[:n]}, x.b)
			_, played := witness.Replay(x.p, api.Witness{Sum: sum, Found: other, Picks: x.f.Picks[:n], Budget: x.b})
			if is {
				shown++
			} else {
				not++
			}
			if is && (made != api.OK || played != api.OK) || !is && (made != api.ErrShow || played != api.ErrShown) {
				t.Errorf("%d: %v: %v %v", i, is, made, played)
			}
		}
	}
	if shown < 200 || not < 1000 {
		t.Errorf("shown %d, not %d", shown, not)
	}
}

// P1: calls with anything end without a panic.
func TestAnything(t *testing.T) {
	for seed := range uint64(500) {
		p := sample.Prog(seed)
		if seed%4 == 0 {
			p.Funcs[0].Code[0].A = int(seed) - 100
		}
		any := sample.Choices(seed, 40)
		f := api.Found{Kind: any[0], A: api.Spot{Func: any[1], PC: any[2]}, B: api.Spot{Func: any[3], PC: any[4]}, Num: any[5], Why: any[6]}
		b := api.Budget{Steps: any[7], Fuel: any[8], Runs: any[9]}
		picks := []api.Pick{{Go: any[10], Alt: any[11]}, {}, {Go: any[12]}}
		w := api.Witness{Sum: uint32(any[13]), Found: f, Picks: picks, Budget: b}
		witness.Write(w)
		witness.Replay(p, w)
		witness.Make(p, api.Finding{Found: f, Picks: picks}, b)
		witness.Make(p, api.Finding{Found: f, Picks: picks}, plenty)
		raw := []byte("scaw")
		for _, x := range any {
			raw = append(raw, byte(x), byte(x>>8))
			witness.Read(raw)
			witness.Read(summed(raw))
		}
	}
}

// R3, R6: what is handed in stays as it is, spare room too; answers are new memory, and the same each time.
func TestMemory(t *testing.T) {
	strange := api.Pick{Go: -7, Alt: -7}
	for i, x := range tasks(t, 200) {
		before, kept := prog.Copy(x.p), slices.Clone(x.f.Picks)
		picks := append(slices.Clone(kept), strange, strange)[:len(kept)]
		f := api.Finding{Found: x.f.Found, Picks: picks}
		first, _ := witness.Make(x.p, x.f, x.b)
		raw := bytesOf(first)
		given := append(slices.Clone(raw), 77, 77)[:len(raw)]
		for range 2 {
			w, e := witness.Make(x.p, f, x.b)
			if e != api.OK || !same(w, first) {
				t.Errorf("%d: %v %v, not %v", i, w, e, first)
			}
			spoil(w.Picks, strange)
			w = first
			w.Picks = picks
			b, e := witness.Write(w)
			if e != api.OK || !slices.Equal(b, raw) {
				t.Errorf("%d: %v %v, not %v", i, b, e, raw)
			}
			spoil(b, 77)
			r, e, _ := witness.Read(given)
			if e != api.OK || !same(r, first) {
				t.Errorf("%d: %v %v, not %v", i, r, e, first)
			}
			spoil(r.Picks, strange)
			trace, e := witness.Replay(x.p, w)
			if e != api.OK || len(trace.Events) != len(kept) {
				t.Errorf("%d: %v %v", i, trace, e)
			}
			spoil(trace.Events, api.Event{Go: -7})
		}
		if !prog.Same(x.p, before) || !slices.Equal(picks, kept) || picks[:len(kept)+2][len(kept)] != strange || !slices.Equal(given, raw) || given[:len(raw)+1][len(raw)] != 77 {
			t.Errorf("%d: a call changes its arguments", i)
		}
	}
}
