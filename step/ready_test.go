package step_test

import (
	"math"
	"slices"
	"testing"

	"scarab/api"
	"scarab/prog"
	"scarab/step"
)

// 8.1, 8.4: the chapter's first example: a lock, and two sends on one unbuffered channel.
func TestExampleLockAndSend(t *testing.T) {
	p := bench(api.Instr{Op: api.OpLock}, api.Instr{Op: api.OpSend, A: plain})
	l, e := step.Ready(p, standing(0))
	same(t, "lock", l, e, api.Pick{})
	s, _, e := step.Do(p, standing(0), api.Pick{}, 9)
	if e != api.OK || s.Owner[0] != 1 {
		t.Errorf("lock: %v, %v", e, s.Owner)
	}
	s = standing(1, 1)
	l, e = step.Ready(p, s)
	same(t, "both send", l, e, api.Pick{Go: 0}, api.Pick{Go: 1})
	s, _, e = step.Do(p, s, api.Pick{}, 9)
	if e != api.OK || s.Gos[0].Status != api.GoWait {
		t.Errorf("the first one: %v, %v", e, s.Gos[0])
	}
	l, e = step.Ready(p, s)
	same(t, "none is ready", l, e)
	w, e := step.Waiting(p, s)
	same(t, "both wait", w, e, 0, 1)
	w, e = step.Blame(p, s, 1)
	same(t, "the first one holds the other up", w, e, 0)
	w, e = step.Blame(p, s, 0)
	same(t, "nobody holds the first one up", w, e)
}

// choice is a program of main at a select: of receives from single and double, and a send on single, with an else.
func choice(otherwise int) api.Prog {
	p := bench(api.Instr{Op: api.OpSelect})
	p.Funcs[0].Selects = []api.Select{{Cases: []api.Case{
		{Chan: single, Reg: 1, To: 1}, {Chan: double, Reg: -1, To: 2}, {Chan: double, Send: true, Reg: 2, To: 3},
	}, Else: otherwise}}
	return p
}

// 8.1: the chapter's second example: a select with an else, of two receives.
func TestExampleSelect(t *testing.T) {
	p := choice(3)
	p.Funcs[0].Selects[0].Cases = p.Funcs[0].Selects[0].Cases[:2]
	alts := func(what string, s api.State, want ...int) {
		t.Helper()
		l, e := step.Alts(p, s, 0)
		same(t, what, l, e, want...)
	}
	s := standing(0)
	alts("both empty", s, 2)
	s.Chans[double] = api.Chan{Len: 1}
	alts("something in one", s, 1)
	s.Chans[double] = api.Chan{Closed: true}
	alts("one closed", s, 1)
	s.Chans[single] = api.Chan{Len: 1}
	alts("both", s, 0, 1)
	p.Funcs[0].Selects[0].Else = -1
	alts("both, no else", s, 0, 1)
	alts("none, no else", standing(0))
	w, e := step.Waiting(p, standing(0))
	same(t, "it waits", w, e, 0)
	w, e = step.Blame(p, standing(0), 0)
	same(t, "for nobody", w, e)
	p.Funcs[0].Selects[0].Else = 0
	alts("none, an else at 0", standing(0), 2)
	r, e := step.Ready(p, s)
	same(t, "picks", r, e, api.Pick{}, api.Pick{Alt: 1})
}

// 8.1: the cases of a select that send.
func TestSelectSends(t *testing.T) {
	alts := func(what string, s api.State, want ...int) {
		t.Helper()
		l, e := step.Alts(choice(-1), s, 0)
		same(t, what, l, e, want...)
	}
	s := standing(0)
	alts("room", s, 2)
	s.Chans[double].Len = 1
	alts("room, and something", s, 1, 2)
	s.Chans[double].Len = 2
	alts("full", s, 1)
	s.Chans[double].Closed = true
	alts("full and closed", s, 1, 2)
	s.Chans[single] = api.Chan{Closed: true}
	alts("all", s, 0, 1, 2)
}

// 8.1: a receive of a select from an unbuffered channel asks for an offer that is there.
func TestSelectOffers(t *testing.T) {
	p := bench(api.Instr{Op: api.OpSelect}, api.Instr{Op: api.OpSend, A: other})
	p.Funcs[0].Selects = []api.Select{{Cases: []api.Case{{Chan: plain, Reg: -1}, {Chan: other, Reg: -1}}, Else: -1}}
	s := standing(0, 1)
	l, e := step.Alts(p, s, 0)
	same(t, "no offer", l, e)
	s.Gos[1].Status = api.GoWait
	s.Chans[other] = api.Chan{Offer: api.OfferThere, From: 1}
	l, e = step.Alts(p, s, 0)
	same(t, "an offer", l, e, 1)
	s.Chans[other].Offer = api.OfferTaken
	l, e = step.Alts(p, s, 0)
	same(t, "a taken one", l, e)
	s.Chans[other] = api.Chan{Offer: api.OfferLost, From: 1, Closed: true}
	l, e = step.Alts(p, s, 0)
	same(t, "a lost one", l, e, 1)
}

// chance is a state of the goroutine 0, whether that is ready, and who holds it up.
type chance struct {
	what  string
	in    api.Instr
	s     api.State
	ready bool
	blame []int
}

// asks holds them against what the calls tell.
func asks(t *testing.T, l []chance) {
	t.Helper()
	for _, c := range l {
		p := bench(c.in, api.Instr{Op: api.OpYield}, api.Instr{Op: api.OpSend, A: plain})
		alts, waits := []int{0}, []int(nil)
		if !c.ready {
			alts, waits = nil, []int{0}
		}
		got, e := step.Alts(p, c.s, 0)
		same(t, c.what+": Alts", got, e, alts...)
		got, e = step.Blame(p, c.s, 0)
		same(t, c.what+": Blame", got, e, c.blame...)
		got, e = step.Waiting(p, c.s)
		got = slices.DeleteFunc(got, func(g int) bool { return g != 0 })
		same(t, c.what+": Waiting", got, e, waits...)
		picks, e := step.Ready(p, c.s)
		if e != api.OK || slices.Contains(picks, api.Pick{}) != c.ready {
			t.Errorf("%s: Ready: %v %v", c.what, picks, e)
		}
	}
}

// changed is a state to which something is done.
func changed(s api.State, do func(s *api.State)) api.State {
	do(&s)
	return s
}

// 8.1, 8.4: await, lock, and what is ready always.
func TestReadyPlain(t *testing.T) {
	s := with(standing(0, 1), 3, 4)
	owned := func(k int) api.State { return changed(s, func(s *api.State) { s.Owner[0] = k }) }
	l := []chance{
		{"await, another number", api.Instr{Op: api.OpAwait, B: 1}, s, false, nil},
		{"await", api.Instr{Op: api.OpAwait, B: 1}, changed(s, func(s *api.State) { s.Vars[0] = 4 }), true, nil},
		{"await of 0", api.Instr{Op: api.OpAwait, B: 2}, s, true, nil},
		{"lock", api.Instr{Op: api.OpLock}, s, true, nil},
		{"lock, held", api.Instr{Op: api.OpLock}, owned(2), false, []int{1}},
		{"lock, held by itself", api.Instr{Op: api.OpLock}, owned(1), false, []int{0}},
		{"another lock", api.Instr{Op: api.OpLock, A: 1}, owned(1), true, nil},
		{"try, held", api.Instr{Op: api.OpTry}, owned(2), true, nil},
		{"unlock, not held", api.Instr{Op: api.OpUnlock}, s, true, nil},
		{"load", api.Instr{Op: api.OpLoad}, s, true, nil},
		{"store", api.Instr{Op: api.OpStore}, s, true, nil},
		{"bump", api.Instr{Op: api.OpBump}, s, true, nil},
		{"cas", api.Instr{Op: api.OpCas}, s, true, nil},
		{"close", api.Instr{Op: api.OpClose}, s, true, nil},
		{"close, closed", api.Instr{Op: api.OpClose}, changed(s, func(s *api.State) { s.Chans[0].Closed = true }), true, nil},
		{"spawn", api.Instr{Op: api.OpSpawn}, s, true, nil},
		{"spawn, too many", api.Instr{Op: api.OpSpawn}, standing(0, 1, 1, 1, 1, 1), true, nil},
		{"yield", api.Instr{Op: api.OpYield}, s, true, nil},
		{"note", api.Instr{Op: api.OpNote}, s, true, nil},
	}
	for op := api.OpNeg; op <= api.OpEnd; op++ {
		if in := (api.Instr{Op: op}); prog.Local(op) {
			l = append(l, chance{"a local one", in, with(standing(0, 1), 1, 1, 1, 1), false, nil})
		}
	}
	asks(t, l)
}

// 8.1, 8.4: sends, receives, and who waits for an offer.
func TestReadyChannels(t *testing.T) {
	chans := func(n int, c api.Chan) api.State {
		s := standing(0, 1)
		s.Chans[n] = c
		return s
	}
	offer := func(kind int, closed bool) api.State {
		s := standing(0, 1, 2)
		s.Gos[2].Status = api.GoWait
		s.Chans[plain] = api.Chan{Offer: kind, From: 2, Closed: closed}
		return s
	}
	send := func(n int) api.Instr { return api.Instr{Op: api.OpSend, A: n} }
	recv := func(n int) api.Instr { return api.Instr{Op: api.OpRecv, A: -1, B: n, C: -1} }
	asks(t, []chance{
		{"send, empty", send(double), chans(double, api.Chan{}), true, nil},
		{"send, room", send(double), chans(double, api.Chan{Len: 1}), true, nil},
		{"send, full", send(double), chans(double, api.Chan{Len: 2}), false, nil},
		{"send, full of one", send(single), chans(single, api.Chan{Len: 1}), false, nil},
		{"send, full and closed", send(double), chans(double, api.Chan{Len: 2, Closed: true}), true, nil},
		{"send, unbuffered", send(plain), standing(0), true, nil},
		{"send, closed", send(plain), chans(plain, api.Chan{Closed: true}), true, nil},
		{"send, an offer", send(plain), offer(api.OfferThere, false), false, []int{2}},
		{"send, a taken offer", send(plain), offer(api.OfferTaken, false), false, []int{2}},
		{"send, a taken offer, closed", send(plain), offer(api.OfferTaken, true), true, nil},
		{"send, a lost offer", send(plain), offer(api.OfferLost, true), true, nil},
		{"send, an offer elsewhere", send(other), offer(api.OfferThere, false), true, nil},
		{"recv, empty", recv(double), chans(double, api.Chan{}), false, nil},
		{"recv, something", recv(double), chans(double, api.Chan{Len: 1}), true, nil},
		{"recv, something elsewhere", recv(single), chans(double, api.Chan{Len: 1}), false, nil},
		{"recv, closed", recv(double), chans(double, api.Chan{Closed: true}), true, nil},
		{"recv, closed, something", recv(double), chans(double, api.Chan{Closed: true, Len: 2}), true, nil},
		{"recv, unbuffered", recv(plain), standing(0), false, nil},
		{"recv, unbuffered and closed", recv(plain), chans(plain, api.Chan{Closed: true}), true, nil},
		{"recv, an offer", recv(plain), offer(api.OfferThere, false), true, nil},
		{"recv, a taken offer", recv(plain), offer(api.OfferTaken, false), false, nil},
		{"recv, a taken offer, closed", recv(plain), offer(api.OfferTaken, true), true, nil},
		{"recv, a lost offer", recv(plain), offer(api.OfferLost, true), true, nil},
	})
	waits := func(kind int, closed bool) api.State {
		s := standing(0, 1)
		s.Gos[0].Status = api.GoWait
		s.Chans[plain] = api.Chan{Offer: kind, Closed: closed}
		return s
	}
	asks(t, []chance{
		{"taken, not yet", send(plain), waits(api.OfferThere, false), false, nil},
		{"taken", send(plain), waits(api.OfferTaken, false), true, nil},
		{"taken, closed", send(plain), waits(api.OfferTaken, true), true, nil},
		{"lost", send(plain), waits(api.OfferLost, true), true, nil},
	})
}

// 8.1, 8.4: joins.
func TestReadyJoin(t *testing.T) {
	join := api.Instr{Op: api.OpJoin, A: 2}
	s := standing(0, 1, 1)
	in := func(k int64) api.State { return with(s, 0, 0, k) }
	ended := func(it api.Go) api.State {
		s := in(1)
		s.Gos[1] = it
		return s
	}
	l := []chance{
		{"a live one", join, in(1), false, []int{1}},
		{"another live one", join, in(2), false, []int{2}},
		{"itself", join, in(0), true, nil},
		{"the next one", join, in(3), true, nil},
		{"a done one", join, ended(api.Go{Status: api.GoDone, PC: 3}), true, nil},
		{"a failed one", join, ended(api.Go{Status: api.GoFailed, Func: 2, Why: api.WhyClosed}), true, nil},
		{"a spun one", join, ended(api.Go{Status: api.GoSpun, PC: 3}), true, nil},
	}
	for _, k := range []int64{-1, 5, 6, 7, math.MinInt64, math.MaxInt64, 1 << 32, 1<<32 + 1, -1 << 32} {
		l = append(l, chance{"nobody", join, in(k), true, nil})
	}
	asks(t, l)
	waits := standing(0, 2)
	waits.Gos[0].Regs[2] = 1
	waits.Gos[1].Status = api.GoWait
	waits.Chans[plain] = api.Chan{Offer: api.OfferThere, From: 1}
	asks(t, []chance{{"one that waits", join, waits, false, []int{1}}})
}

// 8.1: at what a goroutine stands.
func TestOp(t *testing.T) {
	for op := api.OpNeg; op <= api.OpTaken; op++ {
		if prog.Form(op) == "" {
			continue
		}
		p := bench(api.Instr{Op: api.OpEnd}, api.Instr{Op: op})
		p.Funcs[1].Selects = []api.Select{{Cases: []api.Case{{Reg: -1}}, Else: -1}}
		if got, e := step.Op(p, standing(0, 1), 1); e != api.OK || got != op {
			t.Errorf("%d: %d %v", op, got, e)
		}
	}
	p := bench(api.Instr{Op: api.OpSend, A: plain})
	s := standing(0, 0)
	s.Gos[1].Status = api.GoWait
	s.Chans[plain] = api.Chan{Offer: api.OfferThere, From: 1}
	if got, e := step.Op(p, s, 1); e != api.OK || got != api.OpTaken {
		t.Errorf("one that waits: %d %v", got, e)
	}
	if got, e := step.Op(p, s, 0); e != api.OK || got != api.OpSend {
		t.Errorf("one that does not: %d %v", got, e)
	}
}

// 8.1, 8.2, 8.4: of any states the calls tell what the chapter's words tell, goroutine by goroutine.
func TestAsked(t *testing.T) {
	for i, x := range append(things(1500), runs(t, 100)...) {
		var picks []api.Pick
		var waits []int
		for g := range api.MaxGos {
			m, live := modelOf(x.p, x.s, g)
			if !live {
				continue
			}
			alts, e := step.Alts(x.p, x.s, g)
			same(t, "Alts", alts, e, m.alts()...)
			touch, e := step.Touch(x.p, x.s, g)
			same(t, "Touch", touch, e, m.touch()...)
			blame, e := step.Blame(x.p, x.s, g)
			same(t, "Blame", blame, e, m.blame()...)
			if op, e := step.Op(x.p, x.s, g); e != api.OK || op != m.op() {
				t.Errorf("Op: %d %v", op, e)
			}
			for _, alt := range m.alts() {
				picks = append(picks, api.Pick{Go: g, Alt: alt})
			}
			if len(m.alts()) == 0 {
				waits = append(waits, g)
			}
		}
		ready, e := step.Ready(x.p, x.s)
		same(t, "Ready", ready, e, picks...)
		waiting, e := step.Waiting(x.p, x.s)
		same(t, "Waiting", waiting, e, waits...)
		if t.Failed() {
			t.Fatalf("at %d", i)
		}
	}
}
