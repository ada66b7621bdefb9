package step_test

import (
	"math"
	"testing"

	"scarab/api"
	"scarab/state"
	"scarab/step"
)

// did asks what a step of goroutine 0 does: the state behind it, and the value of its event.
func did(t *testing.T, what string, p api.Prog, s api.State, alt int, want api.State, val int64) {
	t.Helper()
	got, x, e := step.Do(p, s, api.Pick{Alt: alt}, 9)
	if e != api.OK || got != want || x.Val != val {
		t.Errorf("%s: %v, value %d, %+v, not %d, %+v", what, e, x.Val, got, val, want)
	}
}

// 8.3: load, store, bump, cas, await, note, yield.
func TestDoVariables(t *testing.T) {
	s := with(standing(0, 0), 1, 2, 3, 4)
	s.Vars = [8]int64{10, 20}
	do := func(what string, in api.Instr, vars [2]int64, val int64, regs ...int64) {
		t.Helper()
		want := gone(s, 1, regs...)
		copy(want.Vars[:], vars[:])
		did(t, what, bench(in), s, 0, want, val)
	}
	do("load", api.Instr{Op: api.OpLoad, A: 2, B: 1}, [2]int64{10, 20}, 20, 1, 2, 20, 4)
	do("store", api.Instr{Op: api.OpStore, A: 1, B: 3}, [2]int64{10, 4}, 4, 1, 2, 3, 4)
	do("bump", api.Instr{Op: api.OpBump, A: 3, C: 1}, [2]int64{12, 20}, 2, 1, 2, 3, 10)
	do("bump into no register", api.Instr{Op: api.OpBump, A: -1, C: 1}, [2]int64{12, 20}, 2, 1, 2, 3, 4)
	do("bump into what is added", api.Instr{Op: api.OpBump, A: 1, C: 1}, [2]int64{12, 20}, 2, 1, 10, 3, 4)
	do("cas, another", api.Instr{Op: api.OpCas, A: 3, C: 0, N: 1}, [2]int64{10, 20}, 0, 1, 2, 3, 0)
	do("note", api.Instr{Op: api.OpNote, A: 3, N: 5}, [2]int64{10, 20}, 4, 1, 2, 3, 4)
	do("yield", api.Instr{Op: api.OpYield}, [2]int64{10, 20}, 0, 1, 2, 3, 4)
	s.Vars[0] = 3
	do("cas", api.Instr{Op: api.OpCas, A: 0, C: 2, N: 3}, [2]int64{4, 20}, 1, 1, 2, 3, 4)
	do("cas into what is compared", api.Instr{Op: api.OpCas, A: 2, C: 2, N: 3}, [2]int64{4, 20}, 1, 1, 2, 1, 4)
	do("cas into what is put", api.Instr{Op: api.OpCas, A: 3, C: 2, N: 3}, [2]int64{4, 20}, 1, 1, 2, 3, 1)
	do("await", api.Instr{Op: api.OpAwait, B: 2}, [2]int64{3, 20}, 3, 1, 2, 3, 4)
	s.Vars[0], s.Gos[0].Regs[1] = math.MaxInt64, math.MaxInt64
	do("bump goes round", api.Instr{Op: api.OpBump, A: -1, C: 1}, [2]int64{-2, 20}, math.MaxInt64, 1, math.MaxInt64, 3, 4)
}

// 8.3: lock, try, unlock.
func TestDoLocks(t *testing.T) {
	s := with(standing(0, 0), 7, 7)
	owned := func(s api.State, k int) api.State { return changed(s, func(s *api.State) { s.Owner[1] = k }) }
	lock, try, unlock := bench(api.Instr{Op: api.OpLock, A: 1}), bench(api.Instr{Op: api.OpTry, A: 1, B: 1}), bench(api.Instr{Op: api.OpUnlock, A: 1})
	did(t, "lock", lock, s, 0, owned(gone(s, 1, 7, 7), 1), 0)
	did(t, "try", try, s, 0, owned(gone(s, 1, 7, 1), 1), 1)
	did(t, "try, held", try, owned(s, 2), 0, owned(gone(s, 1, 7, 0), 2), 0)
	did(t, "try, held by itself", try, owned(s, 1), 0, owned(gone(s, 1, 7, 0), 1), 0)
	did(t, "unlock", unlock, owned(s, 1), 0, gone(s, 1, 7, 7), 0)
	did(t, "unlock, another one's", unlock, owned(s, 2), 0, owned(failed(s, api.WhyUnlock), 2), 0)
	did(t, "unlock, nobody's", unlock, s, 0, failed(s, api.WhyUnlock), 0)
}

// chans is a state with a channel.
func chans(s api.State, n int, c api.Chan) api.State {
	s.Chans[n] = c
	return s
}

// 8.3: sends and receives on buffered channels, and a close.
func TestDoBuffered(t *testing.T) {
	s := with(standing(0), 7, 8)
	send := bench(api.Instr{Op: api.OpSend, A: double, B: 1})
	did(t, "send", send, s, 0, chans(gone(s, 1, 7, 8), double, api.Chan{Buf: [4]int64{8}, Len: 1}), 8)
	did(t, "send behind", send, chans(s, double, api.Chan{Buf: [4]int64{5}, Len: 1}), 0,
		chans(gone(s, 1, 7, 8), double, api.Chan{Buf: [4]int64{5, 8}, Len: 2}), 8)
	shut := chans(s, double, api.Chan{Buf: [4]int64{5}, Len: 1, Closed: true})
	did(t, "send, closed", send, shut, 0, failed(shut, api.WhyClosed), 0)

	recv := bench(api.Instr{Op: api.OpRecv, A: 0, B: double, C: 1})
	full := chans(s, double, api.Chan{Buf: [4]int64{5, 6}, Len: 2})
	did(t, "recv", recv, full, 0, chans(gone(s, 1, 5, 1), double, api.Chan{Buf: [4]int64{6}, Len: 1}), 5)
	did(t, "recv of the last", recv, chans(s, double, api.Chan{Buf: [4]int64{6}, Len: 1, Closed: true}), 0,
		chans(gone(s, 1, 6, 1), double, api.Chan{Closed: true}), 6)
	empty := chans(s, double, api.Chan{Closed: true})
	did(t, "recv, closed", recv, empty, 0, chans(gone(s, 1, 0, 0), double, api.Chan{Closed: true}), 0)
	did(t, "recv of a 0", recv, chans(s, double, api.Chan{Len: 1}), 0, gone(s, 1, 0, 1), 0)
	left := chans(s, double, api.Chan{Buf: [4]int64{6}, Len: 1})
	did(t, "recv into no register", bench(api.Instr{Op: api.OpRecv, A: -1, B: double, C: -1}), full, 0, gone(left, 1, 7, 8), 5)
	did(t, "recv into one", bench(api.Instr{Op: api.OpRecv, A: 1, B: double, C: -1}), full, 0, gone(left, 1, 7, 5), 5)
	did(t, "recv into the other one", bench(api.Instr{Op: api.OpRecv, A: -1, B: double, C: 1}), full, 0, gone(left, 1, 7, 1), 5)
	did(t, "recv into one twice", bench(api.Instr{Op: api.OpRecv, A: 1, B: double, C: 1}), full, 0, gone(left, 1, 7, 1), 5)

	close := bench(api.Instr{Op: api.OpClose, A: double})
	did(t, "close", close, full, 0, chans(gone(s, 1, 7, 8), double, api.Chan{Buf: [4]int64{5, 6}, Len: 2, Closed: true}), 0)
	did(t, "close twice", close, empty, 0, failed(empty, api.WhyTwice), 0)
}

// 8.3: a channel of as many as there may be, first in, first out.
func TestDoQueue(t *testing.T) {
	p := bench(api.Instr{Op: api.OpSend}, api.Instr{Op: api.OpRecv, C: -1})
	p.Chans = []int{api.MaxCap}
	s := standing(0)
	for i := range int64(api.MaxCap) {
		s = with(s, 50+i)
		u, _, e := step.Do(p, s, api.Pick{}, 0)
		if e != api.OK || u.Chans[0].Len != int(i)+1 || u.Chans[0].Buf[i] != 50+i {
			t.Fatalf("send %d: %v, %v", i, e, u.Chans[0])
		}
		s.Chans = u.Chans
	}
	if l, _ := step.Alts(p, s, 0); len(l) > 0 {
		t.Error("a fifth one is ready")
	}
	s.Gos[0].Func = 1
	for i := range int64(api.MaxCap) {
		u, x, e := step.Do(p, s, api.Pick{}, 0)
		if e != api.OK || x.Val != 50+i || u.Gos[0].Regs[0] != 50+i || u.Chans[0].Len != 3-int(i) || u.Chans[0].Buf[3-i] != 0 {
			t.Fatalf("recv %d: %v, %v, %v", i, e, x.Val, u.Chans[0])
		}
		s.Chans = u.Chans
	}
	if s.Chans[0] != (api.Chan{}) {
		t.Error(s.Chans[0])
	}
}

// 8.3: offers on an unbuffered channel: made, taken, lost, gone on from.
func TestDoOffers(t *testing.T) {
	p := bench(api.Instr{Op: api.OpSend, A: other, B: 1}, api.Instr{Op: api.OpRecv, A: 0, B: other, C: 1}, api.Instr{Op: api.OpClose, A: other})
	do := func(what string, s api.State, g int, want api.State, val int64, op api.Op) {
		t.Helper()
		got, x, e := step.Do(p, s, api.Pick{Go: g}, 9)
		if e != api.OK || got != want || x.Val != val || x.Op != op || x.PC != 0 || x.Func != s.Gos[g].Func {
			t.Errorf("%s: %v, %+v, %+v, not %+v", what, e, x, got, want)
		}
	}
	put := func(s api.State, g int, it api.Go) api.State { return changed(s, func(s *api.State) { s.Gos[g] = it }) }
	s := standing(2, 1, 0)
	s.Gos[2].Regs = [8]int64{7, 8}
	there := put(chans(s, other, api.Chan{Offer: api.OfferThere, From: 2, Val: 8}), 2, api.Go{Status: api.GoWait, Regs: [8]int64{7, 8}})
	do("an offer", s, 2, there, 8, api.OpSend)

	taken := put(chans(there, other, api.Chan{Offer: api.OfferTaken, From: 2}), 1, api.Go{Status: api.GoLive, Func: 1, PC: 1, Regs: [8]int64{8, 1}})
	do("it is taken", there, 1, taken, 8, api.OpRecv)
	on := api.Go{Status: api.GoLive, PC: 1, Regs: [8]int64{7, 8}}
	do("it goes on", taken, 2, put(chans(taken, other, api.Chan{}), 2, on), 0, api.OpTaken)

	closer := api.Go{Status: api.GoLive, Func: 2, PC: 1}
	lost := put(chans(there, other, api.Chan{Offer: api.OfferLost, From: 2, Closed: true}), 0, closer)
	do("it is lost", there, 0, lost, 0, api.OpClose)
	gone := put(chans(lost, other, api.Chan{Closed: true}), 2, api.Go{Status: api.GoFailed, Why: api.WhyClosed})
	do("it fails", lost, 2, gone, 0, api.OpTaken)
	do("nobody takes a lost one", lost, 1, put(lost, 1, api.Go{Status: api.GoLive, Func: 1, PC: 1}), 0, api.OpRecv)

	shut := put(chans(taken, other, api.Chan{Offer: api.OfferTaken, From: 2, Closed: true}), 0, closer)
	do("closed behind a taken one", taken, 0, shut, 0, api.OpClose)
	do("it goes on all the same", shut, 2, put(chans(shut, other, api.Chan{Closed: true}), 2, on), 0, api.OpTaken)
	late := put(shut, 1, api.Go{Status: api.GoLive, Func: 0, Regs: [8]int64{0, 3}})
	do("a send on it fails", late, 1, put(late, 1, api.Go{Status: api.GoFailed, Why: api.WhyClosed}), 0, api.OpSend)
}

// 8.3: behind an offer no local instruction is run; behind a taken one they are.
func TestDoOfferLocals(t *testing.T) {
	p := bench(api.Instr{Op: api.OpSend, A: plain})
	p.Funcs[0].Code[1] = api.Instr{Op: api.OpConst, A: 1, N: 5}
	s := standing(0)
	want := s
	want.Gos[0].Status, want.Chans[plain].Offer = api.GoWait, api.OfferThere
	did(t, "an offer", p, s, 0, want, 0)
	want.Chans[plain].Offer = api.OfferTaken
	did(t, "it goes on", p, want, 0, gone(s, 2, 0, 5), 0)
}

// 8.3: the cases of a select, and its else.
func TestDoSelect(t *testing.T) {
	p := choice(0)
	s := with(standing(0), 7, 8, 9)
	one := api.Chan{Buf: [4]int64{5}, Len: 1}
	two := api.Chan{Buf: [4]int64{6}, Len: 1}
	both := chans(chans(s, single, one), double, two)
	did(t, "a receive", p, both, 0, gone(chans(both, single, api.Chan{}), 1, 7, 5, 9), 5)
	did(t, "a receive into none", p, both, 1, gone(chans(both, double, api.Chan{}), 2, 7, 8, 9), 6)
	did(t, "a send", p, both, 2, chans(chans(with(changed(s, func(s *api.State) {
		s.Gos[0] = api.Go{Status: api.GoDone, PC: 3}
	})), single, one), double, api.Chan{Buf: [4]int64{6, 9}, Len: 2}), 9)
	shut := chans(s, double, api.Chan{Closed: true})
	did(t, "a send, closed", p, shut, 2, failed(shut, api.WhyClosed), 0)
	did(t, "a receive, closed", p, shut, 1, gone(shut, 2, 7, 8, 9), 0)
	empty := chans(s, single, api.Chan{Closed: true})
	did(t, "a receive into one, closed", p, empty, 0, gone(empty, 1, 7, 0, 9), 0)
	p.Funcs[0].Selects[0].Cases = p.Funcs[0].Selects[0].Cases[:2]
	did(t, "the else", p, s, 2, s, 0)
	p.Funcs[0].Selects[0].Else = 2
	did(t, "the else", p, s, 2, gone(s, 2, 7, 8, 9), 0)
}

// spawner is a program of main that spawns a function of two parameters, from r1 on, into a register.
func spawner(into int) api.Prog {
	p := bench(api.Instr{Op: api.OpSpawn, A: into, B: 1, C: 1}, api.Instr{Op: api.OpConst, A: 3, N: 5})
	p.Funcs[1].Params = 2
	return p
}

// 8.3: spawns: the new goroutine, its parameters, its local instructions; one too many.
func TestDoSpawn(t *testing.T) {
	s := with(standing(0), 7, 8, 9, 6)
	born := func(s api.State, k int) api.State {
		s.Count = k + 1
		s.Gos[k] = api.Go{Status: api.GoLive, Func: 1, PC: 1, Regs: [8]int64{8, 9, 0, 5}}
		return s
	}
	did(t, "spawn", spawner(0), s, 0, born(gone(s, 1, 1, 8, 9, 6), 1), 1)
	did(t, "spawn into none", spawner(-1), s, 0, born(gone(s, 1, 7, 8, 9, 6), 1), 1)
	did(t, "spawn into a parameter", spawner(1), s, 0, born(gone(s, 1, 7, 1, 9, 6), 1), 1)
	five := with(standing(0, 0, 0, 0, 0), 7, 8, 9, 6)
	did(t, "the last one", spawner(0), five, 0, born(gone(five, 1, 5, 8, 9, 6), 5), 5)
	six := with(standing(0, 0, 0, 0, 0, 0), 7, 8, 9, 6)
	did(t, "one too many", spawner(0), six, 0, failed(six, api.WhyGos), 0)
	p := spawner(0)
	p.Funcs[1].Params, p.Funcs[0].Code[0].C = 0, 0
	alone := born(gone(s, 1, 1, 8, 9, 6), 1)
	alone.Gos[1].Regs = [8]int64{3: 5}
	did(t, "no parameters", p, s, 0, alone, 1)
}

// 8.3: both have the same fuel, each for itself; what the one does at that is nothing to the other one.
func TestDoSpawnFuel(t *testing.T) {
	p := spawner(0)
	p.Funcs[0].Code[1] = api.Instr{Op: api.OpConst, A: 2, N: 4}
	for fuel := range 3 {
		s, _, e := step.Do(p, with(standing(0), 7, 8, 9), api.Pick{}, fuel)
		want := [2]int{api.GoLive, api.GoLive}
		if fuel == 0 {
			want = [2]int{api.GoSpun, api.GoSpun}
		}
		if e != api.OK || [2]int{s.Gos[0].Status, s.Gos[1].Status} != want || s.Gos[1].Regs[1] != 9 {
			t.Errorf("fuel %d: %v, %v", fuel, e, s.Gos[:2])
		}
	}
	p.Funcs[0].Code[1] = api.Instr{Op: api.OpAssert, A: 3}
	s, x, e := step.Do(p, standing(0), api.Pick{}, 9)
	if e != api.OK || s.Gos[0] != (api.Go{Status: api.GoFailed, PC: 1, Why: api.WhyAssert}) || s.Gos[1].PC != 1 || x.Val != 1 {
		t.Errorf("%v, %v, %v", e, x, s.Gos[:2])
	}
}

// 8.3: joins, the chapter's third example among them.
func TestDoJoin(t *testing.T) {
	p := bench(api.Instr{Op: api.OpJoin, A: 1})
	s := with(standing(0, 0), 3, 1)
	for _, it := range []api.Go{{Status: api.GoDone, PC: 3}, {Status: api.GoSpun, PC: 3}, {Status: api.GoFailed, Why: api.WhyJoin}} {
		u := changed(s, func(s *api.State) { s.Gos[1] = it })
		did(t, "join", p, u, 0, gone(u, 1, 3, 1), 1)
	}
	for _, k := range []int64{7, 2, -1, 0, math.MinInt64, math.MaxInt64, 1<<32 + 1} {
		u := with(standing(0, 0), 3, k)
		did(t, "join of nobody", p, u, 0, failed(u, api.WhyJoin), 0)
	}
}

// 8.3: all of an event, of a note and of a failure.
func TestDoEvent(t *testing.T) {
	p := bench(api.Instr{Op: api.OpYield}, api.Instr{Op: api.OpYield}, api.Instr{Op: api.OpUnlock, A: 1})
	p.Funcs[1].Code[2] = api.Instr{Op: api.OpNote, A: 1, N: -4}
	s := standing(0, 2, 1)
	s.Gos[2].PC, s.Gos[2].Regs = 2, [8]int64{0, 6}
	_, x, e := step.Do(p, s, api.Pick{Go: 2}, 9)
	want := api.Event{Go: 2, Func: 1, PC: 2, Op: api.OpNote, Val: 6, Tag: -4, Touch: [6]api.Access{w(5, 2), w(6, 0)}, Touches: 2}
	if e != api.OK || x != want {
		t.Errorf("%v, %+v", e, x)
	}
	_, x, e = step.Do(p, s, api.Pick{Go: 1}, 9)
	want = api.Event{Go: 1, Func: 2, Op: api.OpUnlock, Touch: [6]api.Access{w(2, 1), w(5, 1)}, Touches: 2}
	if e != api.OK || x != want {
		t.Errorf("%v, %+v", e, x)
	}
	_, x, e = step.Do(choice(-1), chans(standing(0), double, api.Chan{Buf: [4]int64{6}, Len: 1}), api.Pick{Alt: 1}, 9)
	want = api.Event{Op: api.OpSelect, Alt: 1, Val: 6, Touch: [6]api.Access{w(3, single), w(3, double), w(5, 0)}, Touches: 3}
	if e != api.OK || x != want {
		t.Errorf("%v, %+v", e, x)
	}
}

// 8.3: the local instructions behind a step, with each fuel; a failure among them leaves the event as it is.
func TestDoLocals(t *testing.T) {
	p := bench(api.Instr{Op: api.OpLoad, A: 0})
	p.Funcs[0].Code = []api.Instr{{Op: api.OpLoad, A: 0}, {Op: api.OpConst, A: 1, N: 3}, {Op: api.OpDiv, A: 2, B: 1, C: 3}, {Op: api.OpEnd}}
	s := standing(0)
	s.Vars[0] = 4
	for fuel, want := range []api.Go{
		{Status: api.GoSpun, PC: 1, Regs: [8]int64{4}}, {Status: api.GoSpun, PC: 2, Regs: [8]int64{4, 3}}, {Status: api.GoFailed, PC: 2, Why: api.WhyZero},
	} {
		u, x, e := step.Do(p, s, api.Pick{}, fuel)
		if e != api.OK || u.Gos[0] != want || x.Val != 4 {
			t.Errorf("fuel %d: %v, %v, %v", fuel, e, x, u.Gos[0])
		}
	}
	if u, _, e := step.Do(p, s, api.Pick{}, api.MaxFuel); e != api.OK || u.Gos[0].Status != api.GoFailed {
		t.Errorf("all fuel: %v", e)
	}
}

// 8.3: of any states each pick that is ready does what the chapter's words say; all others are told.
func TestDoAny(t *testing.T) {
	seen := map[[2]int]int{}
	for i, x := range append(things(1500), runs(t, 100)...) {
		fuel := i % 30
		for g := -1; g <= api.MaxGos; g++ {
			m, live := modelOf(x.p, x.s, g)
			ready := map[int]int{}
			if live {
				for _, alt := range m.alts() {
					ready[alt]++
				}
			}
			for alt := -1; alt <= api.MaxCases+1; alt++ {
				got, event, e := step.Do(x.p, x.s, api.Pick{Go: g, Alt: alt}, fuel)
				if ready[alt] == 0 {
					if e != api.ErrPick || got != (api.State{}) || event != (api.Event{}) {
						t.Fatalf("%d: {%d %d}: %v", i, g, alt, e)
					}
					continue
				}
				want, wanted := m.do(alt, fuel)
				if e != api.OK || got != want || event != wanted {
					t.Fatalf("%d: {%d %d}: %v, %+v, not %+v, %+v, not %+v", i, g, alt, e, event, wanted, got, want)
				}
				if !state.Valid(x.p, got) {
					t.Fatalf("%d: {%d %d}: the state behind is none", i, g, alt)
				}
				seen[[2]int{int(event.Op), 0}]++
				seen[[2]int{int(event.Op), got.Gos[g].Why}]++
			}
		}
	}
	for _, k := range [][2]int{
		{58, api.WhyClosed}, {61, api.WhyClosed}, {66, api.WhyClosed}, {60, api.WhyTwice}, {56, api.WhyUnlock}, {63, api.WhyJoin}, {62, api.WhyGos},
	} {
		if seen[k] == 0 {
			t.Errorf("the operation %d never fails by %d", k[0], k[1])
		}
	}
	for op := api.OpLoad; op <= api.OpTaken; op++ {
		if seen[[2]int{int(op), 0}] < 5 {
			t.Errorf("the operation %d is hardly ever taken", op)
		}
	}
}
