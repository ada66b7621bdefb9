package sample

import (
	"scarab/api"
	"scarab/prog"
)

// placer puts goroutines into a state of a program.
type placer struct {
	dice
	p api.Prog
	s api.State
}

// State is a state of a right program, be it one that a run comes to or not: goroutines at any places, as they may be
// there, with any owners of locks and anything on the channels.
func State(p api.Prog, seed uint64) api.State {
	m := &placer{dice: dice(seed), p: p}
	m.s.Count = 1 + m.below(api.MaxGos)
	for v := range p.Vars {
		m.s.Vars[v] = m.some()
	}
	for l := range p.Locks {
		m.s.Owner[l] = m.upTo(m.s.Count)
	}
	for n, room := range p.Chans {
		m.s.Chans[n] = m.channel(room)
	}
	for g := range m.s.Count {
		m.s.Gos[g] = m.goroutine(g)
	}
	return m.s
}

// some is a number, more often than not a small one.
func (m *placer) some() int64 {
	if m.below(4) == 0 {
		return m.any()
	}
	return int64(m.upTo(api.MaxGos)) - 1
}

// channel is a channel without an offer.
func (m *placer) channel(room int) api.Chan {
	c := api.Chan{Len: m.upTo(room), Closed: m.below(3) == 0}
	for i := range c.Len {
		c.Buf[i] = m.some()
	}
	return c
}

// goroutine is a goroutine somewhere, as it may be there.
func (m *placer) goroutine(g int) api.Go {
	f := m.below(len(m.p.Funcs))
	fn := m.p.Funcs[f]
	pc := m.below(len(fn.Code))
	in := fn.Code[pc]
	it := api.Go{Status: api.GoLive, Func: f, PC: pc}
	if m.below(3) == 0 {
		m.change(&it, in, g)
	}
	if it.Status == api.GoDone || it.Status == api.GoFailed {
		return it
	}
	for r := range fn.Regs {
		it.Regs[r] = m.some()
	}
	return it
}

// change makes a goroutine what it may be at an instruction beside live.
func (m *placer) change(it *api.Go, in api.Instr, g int) {
	why := reason(in.Op)
	switch {
	case in.Op == api.OpSend && m.p.Chans[in.A] == 0 && m.s.Chans[in.A].Offer == api.OfferNone && m.below(4) > 0:
		it.Status = api.GoWait
		m.offer(in.A, g)
	case in.Op == api.OpEnd && m.below(4) > 0:
		it.Status = api.GoDone
	case why != 0 && m.below(4) > 0:
		it.Status, it.Why = api.GoFailed, why
	case prog.Local(in.Op):
		it.Status = api.GoSpun
	}
}

// offer puts an offer of a goroutine on a channel.
func (m *placer) offer(n, g int) {
	c := &m.s.Chans[n]
	c.Offer, c.From = api.OfferTaken, g
	switch {
	case m.below(3) == 0:
	case c.Closed:
		c.Offer = api.OfferLost
	default:
		c.Offer, c.Val = api.OfferThere, m.some()
	}
}

// reason is why an operation may fail, 0 if it may not.
func reason(op api.Op) int {
	switch op {
	case api.OpAssert:
		return api.WhyAssert
	case api.OpDiv, api.OpRem:
		return api.WhyZero
	case api.OpShl, api.OpShr, api.OpUshr:
		return api.WhyShift
	case api.OpSend, api.OpSelect:
		return api.WhyClosed
	case api.OpClose:
		return api.WhyTwice
	case api.OpUnlock:
		return api.WhyUnlock
	case api.OpJoin:
		return api.WhyJoin
	case api.OpSpawn:
		return api.WhyGos
	}
	return 0
}
