package step

import (
	"scarab/api"
	"scarab/state"
)

// take takes an alternative that the goroutine has: the state becomes the one behind the step, whose event it tells.
func (t *turn) take(alt, fuel int) api.Event {
	it := t.s.Gos[t.g]
	x := api.Event{Go: t.g, Func: it.Func, PC: it.PC, Op: t.op, Alt: alt}
	if t.op == api.OpNote {
		x.Tag = t.in.N
	}
	x.Touches = copy(x.Touch[:], t.touched())
	next := t.behind(alt)
	x.Val = t.act(alt)
	// one that failed, or made an offer, stays where it is.
	if t.s.Gos[t.g].Status != api.GoLive {
		return x
	}
	t.s.Gos[t.g].PC = next
	t.s, _ = state.Settle(t.p, t.s, t.g, fuel)
	if t.op == api.OpSpawn {
		t.s, _ = state.Settle(t.p, t.s, t.s.Count-1, fuel)
	}
	return x
}

// behind is the place at which the goroutine goes on behind an alternative.
func (t *turn) behind(alt int) int {
	if t.op != api.OpSelect {
		return t.s.Gos[t.g].PC + 1
	}
	choice := t.choice()
	if alt == len(choice.Cases) {
		return choice.Else
	}
	return choice.Cases[alt].To
}

// act does to the state what the operation does, and tells the value that it moved.
func (t *turn) act(alt int) int64 {
	in := t.in
	switch t.op {
	case api.OpLoad:
		return t.set(in.A, t.s.Vars[in.B])
	case api.OpStore:
		t.s.Vars[in.A] = t.reg(in.B)
		return t.reg(in.B)
	case api.OpBump:
		more := t.reg(in.C)
		t.set(in.A, t.s.Vars[in.B])
		t.s.Vars[in.B] += more
		return more
	case api.OpCas:
		return t.set(in.A, t.swapped())
	case api.OpAwait:
		return t.reg(in.B)
	case api.OpLock:
		t.held(in.A)
	case api.OpTry:
		return t.set(in.A, t.held(in.B))
	case api.OpUnlock:
		if t.s.Owner[in.A] != t.g+1 {
			return t.fail(api.WhyUnlock)
		}
		t.s.Owner[in.A] = 0
	case api.OpSend:
		return t.send(in.A, t.reg(in.B))
	case api.OpRecv:
		x, some := t.recv(in.B)
		t.set(in.A, x)
		t.set(in.C, some)
		return x
	case api.OpTaken:
		return t.resume()
	case api.OpClose:
		return t.close()
	case api.OpSelect:
		return t.choose(alt)
	case api.OpSpawn:
		return t.spawn()
	case api.OpJoin:
		if k, there := t.joined(); !there || k == t.g {
			return t.fail(api.WhyJoin)
		}
		return t.reg(in.A)
	case api.OpNote:
		return t.reg(in.A)
	}
	return 0
}

// set sets a register of the goroutine (-1: none), and tells what it was set to.
func (t *turn) set(r int, x int64) int64 {
	if r != -1 {
		t.s.Gos[t.g].Regs[r] = x
	}
	return x
}

// fail ends the goroutine where it stands. It moved no value: 0.
func (t *turn) fail(why int) int64 {
	it := t.s.Gos[t.g]
	t.s.Gos[t.g] = api.Go{Status: api.GoFailed, Func: it.Func, PC: it.PC, Why: why}
	return 0
}

// swapped does what a cas does to its variable, and tells 1, or 0 if that was another number.
func (t *turn) swapped() int64 {
	if t.s.Vars[t.in.B] != t.reg(t.in.C) {
		return 0
	}
	t.s.Vars[t.in.B] = t.reg(int(t.in.N))
	return 1
}

// held takes a lock for the goroutine, and tells 1, or 0 if somebody holds it.
func (t *turn) held(lock int) int64 {
	if t.s.Owner[lock] != 0 {
		return 0
	}
	t.s.Owner[lock] = t.g + 1
	return 1
}

// send sends a value on a channel on which that is ready.
func (t *turn) send(n int, x int64) int64 {
	c := t.s.Chans[n]
	switch {
	case c.Closed:
		return t.fail(api.WhyClosed)
	case t.p.Chans[n] > 0:
		c = push(c, x)
	default:
		c.Offer, c.From, c.Val = api.OfferThere, t.g, x
		t.s.Gos[t.g].Status = api.GoWait
	}
	t.s.Chans[n] = c
	return x
}

// recv receives from a channel on which that is ready: the value, and 1, or 0 if it is closed and nothing was there.
func (t *turn) recv(n int) (int64, int64) {
	c, x, some := pull(t.s.Chans[n])
	t.s.Chans[n] = c
	if some {
		return x, 1
	}
	return x, 0
}

// resume ends a goroutine's waiting for its offer.
func (t *turn) resume() int64 {
	c := t.s.Chans[t.in.A]
	t.s.Chans[t.in.A] = cleared(c)
	if c.Offer == api.OfferLost {
		return t.fail(api.WhyClosed)
	}
	t.s.Gos[t.g].Status = api.GoLive
	return 0
}

// close closes the channel.
func (t *turn) close() int64 {
	was := t.s.Chans[t.in.A]
	now := shut(was)
	// one that was closed already stays as it is.
	if now == was {
		return t.fail(api.WhyTwice)
	}
	t.s.Chans[t.in.A] = now
	return 0
}

// choose does what a case of a select does, or nothing for the else.
func (t *turn) choose(alt int) int64 {
	cases := t.choice().Cases
	if alt == len(cases) {
		return 0
	}
	c := cases[alt]
	if c.Send {
		return t.send(c.Chan, t.reg(c.Reg))
	}
	x, _ := t.recv(c.Chan)
	return t.set(c.Reg, x)
}

// spawn makes a new goroutine.
func (t *turn) spawn() int64 {
	k := t.s.Count
	if k == api.MaxGos {
		return t.fail(api.WhyGos)
	}
	it := api.Go{Status: api.GoLive, Func: t.in.B}
	copy(it.Regs[:t.p.Funcs[t.in.B].Params], t.s.Gos[t.g].Regs[t.in.C:])
	t.s.Gos[k] = it
	t.s.Count++
	return t.set(t.in.A, int64(k))
}
