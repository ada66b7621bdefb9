package step_test

import (
	"math"
	"testing"

	"scarab/api"
	"scarab/flow"
	"scarab/prog"
	"scarab/step"
)

// touches asks what the next step of the goroutine g touches.
func touches(t *testing.T, what string, p api.Prog, s api.State, g int, want ...api.Access) {
	t.Helper()
	l, e := step.Touch(p, s, g)
	same(t, what, l, e, want...)
}

// w is what is written, r what is read.
func w(kind, num int) api.Access { return api.Access{Kind: kind, Num: num, Write: true} }
func r(kind, num int) api.Access { return api.Access{Kind: kind, Num: num} }

// 8.2: each operation touches its object, and its goroutine.
func TestTouch(t *testing.T) {
	self := w(api.ObGo, 1)
	cases := []struct {
		what string
		in   api.Instr
		want []api.Access
	}{
		{"load", api.Instr{Op: api.OpLoad, A: 3, B: 1}, []api.Access{r(api.ObVar, 1), self}},
		{"await", api.Instr{Op: api.OpAwait, B: 3}, []api.Access{r(api.ObVar, 0), self}},
		{"store", api.Instr{Op: api.OpStore, A: 1, B: 3}, []api.Access{w(api.ObVar, 1), self}},
		{"bump", api.Instr{Op: api.OpBump, A: 3, C: 2}, []api.Access{w(api.ObVar, 0), self}},
		{"cas", api.Instr{Op: api.OpCas, A: 3, C: 2, N: 1}, []api.Access{w(api.ObVar, 0), self}},
		{"lock", api.Instr{Op: api.OpLock, A: 1}, []api.Access{w(api.ObLock, 1), self}},
		{"unlock", api.Instr{Op: api.OpUnlock, A: 1}, []api.Access{w(api.ObLock, 1), self}},
		{"try", api.Instr{Op: api.OpTry, A: 3, B: 1}, []api.Access{w(api.ObLock, 1), self}},
		{"send", api.Instr{Op: api.OpSend, A: double, B: 3}, []api.Access{w(api.ObChan, double), self}},
		{"recv", api.Instr{Op: api.OpRecv, A: 0, B: double, C: 1}, []api.Access{w(api.ObChan, double), self}},
		{"close", api.Instr{Op: api.OpClose, A: double}, []api.Access{w(api.ObChan, double), self}},
		{"spawn", api.Instr{Op: api.OpSpawn, A: 3}, []api.Access{w(api.ObGos, 0), self, w(api.ObGo, 2)}},
		{"yield", api.Instr{Op: api.OpYield}, []api.Access{self}},
		{"note", api.Instr{Op: api.OpNote, A: 2, N: 5}, []api.Access{self, w(api.ObNotes, 0)}},
	}
	for _, c := range cases {
		touches(t, c.what, bench(api.Instr{Op: api.OpYield}, c.in), standing(0, 1), 1, c.want...)
	}
	for op := api.OpNeg; op <= api.OpEnd; op++ {
		if prog.Local(op) {
			touches(t, "a local one", bench(api.Instr{Op: api.OpYield}, api.Instr{Op: op}), standing(0, 1), 1, self)
		}
	}
}

// 8.2: one that waits touches the channel of its offer.
func TestTouchTaken(t *testing.T) {
	p := bench(api.Instr{Op: api.OpSend, A: other})
	s := standing(0)
	s.Gos[0].Status = api.GoWait
	s.Chans[other].Offer = api.OfferThere
	touches(t, "it waits", p, s, 0, w(api.ObChan, other), w(api.ObGo, 0))
}

// 8.2: a select touches all its channels, each once, rising; its else makes no difference.
func TestTouchSelect(t *testing.T) {
	p := bench(api.Instr{Op: api.OpSelect})
	cases := []api.Case{{Chan: other, Reg: -1}, {Chan: double, Send: true}, {Chan: plain, Reg: -1}, {Chan: single, Reg: -1}}
	for _, otherwise := range []int{-1, 0} {
		p.Funcs[0].Selects = []api.Select{{Cases: cases, Else: otherwise}}
		touches(t, "all four", p, standing(0), 0, w(3, 0), w(3, 1), w(3, 2), w(3, 3), w(5, 0))
		p.Funcs[0].Selects = []api.Select{{Cases: []api.Case{cases[1], cases[2], {Chan: double, Reg: -1}}, Else: otherwise}}
		touches(t, "one twice", p, standing(0), 0, w(3, plain), w(3, double), w(5, 0))
	}
}

// 8.2: spawns and joins hang on how many there are, and on a register.
func TestTouchGoroutines(t *testing.T) {
	spawn, join := bench(api.Instr{Op: api.OpSpawn}), bench(api.Instr{Op: api.OpJoin, A: 1})
	touches(t, "the first spawn", spawn, standing(0), 0, w(4, 0), w(5, 0), w(5, 1))
	touches(t, "the last one", spawn, standing(0, 0, 0, 0, 0), 4, w(4, 0), w(5, 4), w(5, 5))
	touches(t, "one too many", spawn, standing(0, 0, 0, 0, 0, 0), 4, w(4, 0), w(5, 4))
	s := standing(0, 0, 0)
	for k, want := range map[int64][]api.Access{
		0: {r(4, 0), r(5, 0), w(5, 1)}, 1: {r(4, 0), w(5, 1)}, 2: {r(4, 0), w(5, 1), r(5, 2)}, 3: {r(4, 0), w(5, 1)},
		-1: {r(4, 0), w(5, 1)}, math.MinInt64: {r(4, 0), w(5, 1)}, math.MaxInt64: {r(4, 0), w(5, 1)}, 1 << 32: {r(4, 0), w(5, 1)},
	} {
		s.Gos[1].Regs[1] = k
		touches(t, "join", join, s, 1, want...)
	}
	s.Gos[1].Regs[1] = 2
	s.Gos[2] = api.Go{Status: api.GoDone, PC: 3}
	touches(t, "join of a done one", join, s, 1, r(4, 0), w(5, 1), r(5, 2))
}

// 6.6: what a goroutine's next step touches lies in what may be touched from its place on, but for itself.
func TestTouchMay(t *testing.T) {
	for _, x := range things(300) {
		for g := range x.s.Count {
			l, e := step.Touch(x.p, x.s, g)
			if e == api.ErrNone {
				continue
			}
			may, _ := flow.May(x.p, x.s.Gos[g].Func, x.s.Gos[g].PC)
			known := map[api.Access]bool{w(api.ObGo, g): true}
			for _, a := range may {
				known[a], known[r(a.Kind, a.Num)] = true, true
			}
			for _, a := range l {
				if !known[a] {
					t.Errorf("%v is not in %v", a, may)
				}
			}
		}
	}
}
