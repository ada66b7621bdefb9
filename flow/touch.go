package flow

import "scarab/api"

// How an object may be touched; what is greater holds what is less.
const (
	untouched = iota
	read
	written
)

// mostNum is how many objects of one kind there may be.
const mostNum = max(api.MaxVars, api.MaxLocks, api.MaxChans, api.MaxGos)

// objects are all objects, by kind and number, with how each may be touched.
type objects [api.ObNotes + 1][mostNum]int

// Touches is what an instruction may touch.
func Touches(p api.Prog, f, pc int) ([]api.Access, api.Errno) {
	if e := checkPlace(p, f, pc); e != api.OK {
		return nil, e
	}
	var all objects
	all.instr(p.Funcs[f], pc)
	return all.list(), api.OK
}

// May are all accesses that may come from a place on.
func May(p api.Prog, f, pc int) ([]api.Access, api.Errno) {
	if e := checkPlace(p, f, pc); e != api.OK {
		return nil, e
	}
	seen := spread(p, f, pc)
	var all objects
	for f, fn := range p.Funcs {
		for pc := range fn.Code {
			if seen[f][pc] {
				all.instr(fn, pc)
			}
		}
	}
	return all.list(), api.OK
}

// touch notes that an object may be touched.
func (o *objects) touch(kind, num, how int) { o[kind][num] = max(o[kind][num], how) }

// instr notes what an instruction may touch.
func (o *objects) instr(fn api.Func, pc int) {
	in := fn.Code[pc]
	switch in.Op {
	case api.OpLoad:
		o.touch(api.ObVar, in.B, read)
	case api.OpAwait:
		o.touch(api.ObVar, in.A, read)
	case api.OpStore:
		o.touch(api.ObVar, in.A, written)
	case api.OpBump, api.OpCas:
		o.touch(api.ObVar, in.B, written)
	case api.OpLock, api.OpUnlock:
		o.touch(api.ObLock, in.A, written)
	case api.OpTry:
		o.touch(api.ObLock, in.B, written)
	case api.OpSend, api.OpClose:
		o.touch(api.ObChan, in.A, written)
	case api.OpRecv:
		o.touch(api.ObChan, in.B, written)
	case api.OpSelect:
		for _, c := range fn.Selects[in.A].Cases {
			o.touch(api.ObChan, c.Chan, written)
		}
	case api.OpSpawn:
		// main is there from the start: no spawn makes goroutine 0.
		o.goroutines(1, written)
	case api.OpJoin:
		o.goroutines(0, read)
	case api.OpNote:
		o.touch(api.ObNotes, 0, written)
	}
}

// goroutines notes that how many there are may be touched, and each of them from one on: which one is not told by the
// text.
func (o *objects) goroutines(from, how int) {
	o.touch(api.ObGos, 0, how)
	for k := from; k < api.MaxGos; k++ {
		o.touch(api.ObGo, k, how)
	}
}

// list is the accesses to all objects that may be touched, by kind, then by number.
func (o *objects) list() []api.Access {
	var out []api.Access
	for kind := range o {
		for num, how := range o[kind] {
			if how != untouched {
				out = append(out, api.Access{Kind: kind, Num: num, Write: how == written})
			}
		}
	}
	return out
}
