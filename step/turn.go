package step

import (
	"iter"

	"scarab/api"
	"scarab/prog"
)

// turn is the turn of one live goroutine in a state: its number, the instruction at which it stands, and the operation
// as which that counts.
type turn struct {
	p  api.Prog
	s  api.State
	g  int
	in api.Instr
	op api.Op
}

// turnOf is the turn of a goroutine that is live.
func turnOf(p api.Prog, s api.State, g int) turn {
	it := s.Gos[g]
	in := p.Funcs[it.Func].Code[it.PC]
	t := turn{p: p, s: s, g: g, in: in, op: in.Op}
	if it.Status == api.GoWait {
		t.op = api.OpTaken
	}
	return t
}

// live tells whether a goroutine has not ended.
func live(it api.Go) bool { return it.Status == api.GoLive || it.Status == api.GoWait }

// reg is what stands in a register of the goroutine.
func (t *turn) reg(r int) int64 { return t.s.Gos[t.g].Regs[r] }

// choice is the select at which the goroutine stands.
func (t *turn) choice() api.Select { return t.p.Funcs[t.s.Gos[t.g].Func].Selects[t.in.A] }

// joined is the goroutine whose number stands in the register of a join, and whether there is one.
func (t *turn) joined() (int, bool) {
	k := t.reg(t.in.A)
	if k < 0 || k >= int64(t.s.Count) {
		return 0, false
	}
	return int(k), true
}

// alternatives hands out those that the goroutine has now, rising.
func (t *turn) alternatives() iter.Seq[int] {
	if t.op == api.OpSelect {
		return t.cases()
	}
	return func(yield func(int) bool) {
		if t.can() {
			yield(0)
		}
	}
}

// cases hands out the cases of a select that are ready, or the else, if none is and there is one.
func (t *turn) cases() iter.Seq[int] {
	choice := t.choice()
	return func(yield func(int) bool) {
		some := false
		for n, c := range choice.Cases {
			if !t.open(c) {
				continue
			}
			some = true
			if !yield(n) {
				return
			}
		}
		if !some && choice.Else != -1 {
			yield(len(choice.Cases))
		}
	}
}

// ready tells whether the goroutine has an alternative.
func (t *turn) ready() bool {
	for range t.alternatives() {
		return true
	}
	return false
}

// has tells whether the goroutine has just that alternative.
func (t *turn) has(alt int) bool {
	for a := range t.alternatives() {
		if a == alt {
			return true
		}
	}
	return false
}

// can tells whether an operation that is no select is ready. Local ones never are.
func (t *turn) can() bool {
	in := t.in
	switch t.op {
	case api.OpAwait:
		return t.s.Vars[in.A] == t.reg(in.B)
	case api.OpLock:
		return t.s.Owner[in.A] == 0
	case api.OpSend:
		return sendable(t.s.Chans[in.A], t.p.Chans[in.A])
	case api.OpRecv:
		return receivable(t.s.Chans[in.B])
	case api.OpTaken:
		offer := t.s.Chans[in.A].Offer
		return offer == api.OfferTaken || offer == api.OfferLost
	case api.OpJoin:
		k, there := t.joined()
		return !there || k == t.g || !live(t.s.Gos[k])
	}
	return prog.Visible(t.op)
}

// open tells whether a case of a select is ready.
func (t *turn) open(c api.Case) bool {
	if c.Send {
		return sendable(t.s.Chans[c.Chan], t.p.Chans[c.Chan])
	}
	return receivable(t.s.Chans[c.Chan])
}
