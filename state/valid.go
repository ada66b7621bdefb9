package state

import (
	"scarab/api"
	"scarab/prog"
)

// Valid tells whether a state is one of a program.
func Valid(p api.Prog, s api.State) bool {
	if e, _ := prog.Check(p); e != api.OK {
		return false
	}
	if !fits(p, s) {
		return false
	}
	for _, it := range s.Gos[:s.Count] {
		if !stands(p, it) {
			return false
		}
	}
	for _, owner := range s.Owner {
		if owner < 0 || owner > s.Count {
			return false
		}
	}
	for n, room := range p.Chans {
		if !holds(s.Chans[n], room) {
			return false
		}
	}
	return offered(p, s)
}

// fits tells whether a state has nothing beyond what the program has, and beyond its goroutines.
func fits(p api.Prog, s api.State) bool {
	return s.Count >= 1 && s.Count <= api.MaxGos && blank(s.Gos[s.Count:]) &&
		blank(s.Vars[len(p.Vars):]) && blank(s.Owner[p.Locks:]) && blank(s.Chans[len(p.Chans):])
}

// blank tells whether all of a list are zero.
func blank[T comparable](l []T) bool {
	var zero T
	for _, x := range l {
		if x != zero {
			return false
		}
	}
	return true
}

// stands tells whether a goroutine can be so where it stands. (Whether it waits there for an offer, offered tells.)
func stands(p api.Prog, it api.Go) bool {
	if it.Func < 0 || it.Func >= len(p.Funcs) {
		return false
	}
	fn := p.Funcs[it.Func]
	if it.PC < 0 || it.PC >= len(fn.Code) {
		return false
	}
	op := fn.Code[it.PC].Op
	switch it.Status {
	case api.GoLive, api.GoWait:
		return it.Why == 0 && blank(it.Regs[fn.Regs:])
	case api.GoSpun:
		return it.Why == 0 && blank(it.Regs[fn.Regs:]) && prog.Local(op)
	case api.GoDone:
		return it.Why == 0 && blank(it.Regs[:]) && op == api.OpEnd
	case api.GoFailed:
		return mayFail(op, it.Why) && blank(it.Regs[:])
	}
	return false
}

// mayFail tells whether an operation may fail for a reason.
func mayFail(op api.Op, why int) bool {
	switch why {
	case api.WhyAssert:
		return op == api.OpAssert
	case api.WhyZero:
		return op == api.OpDiv || op == api.OpRem
	case api.WhyShift:
		return op == api.OpShl || op == api.OpShr || op == api.OpUshr
	case api.WhyClosed:
		return op == api.OpSend || op == api.OpSelect
	case api.WhyTwice:
		return op == api.OpClose
	case api.WhyUnlock:
		return op == api.OpUnlock
	case api.WhyJoin:
		return op == api.OpJoin
	case api.WhyGos:
		return op == api.OpSpawn
	}
	return false
}

// holds tells whether a channel of a capacity can be so by itself.
func holds(c api.Chan, room int) bool {
	if c.Len < 0 || c.Len > room || !blank(c.Buf[c.Len:]) {
		return false
	}
	switch c.Offer {
	case api.OfferNone:
		return c.From == 0 && c.Val == 0
	case api.OfferThere:
		return room == 0 && !c.Closed
	case api.OfferTaken:
		return room == 0 && c.Val == 0
	case api.OfferLost:
		return room == 0 && c.Val == 0 && c.Closed
	}
	return false
}

// offered tells whether each offer is of a goroutine that waits at a send for it, and each that waits has one.
// The goroutines stand in the code by then.
func offered(p api.Prog, s api.State) bool {
	var offers [api.MaxGos]int
	for n, c := range s.Chans {
		if c.Offer == api.OfferNone {
			continue
		}
		if c.From < 0 || c.From >= s.Count || !sends(p, s.Gos[c.From], n) {
			return false
		}
		offers[c.From]++
	}
	for g, it := range s.Gos {
		if it.Status == api.GoWait && offers[g] != 1 {
			return false
		}
	}
	return true
}

// sends tells whether a goroutine waits at a send on a channel.
func sends(p api.Prog, it api.Go, n int) bool {
	in := p.Funcs[it.Func].Code[it.PC]
	return it.Status == api.GoWait && in.Op == api.OpSend && in.A == n
}
