package flow

import (
	"iter"

	"scarab/api"
	"scarab/prog"
)

// places are some of a function's places.
type places [api.MaxCode]bool

// list is their numbers, rising.
func (s places) list() []int {
	var out []int
	for pc, there := range s {
		if there {
			out = append(out, pc)
		}
	}
	return out
}

// just is one place alone.
func just(pc int) places {
	var out places
	out[pc] = true
	return out
}

// behind hands out the places that may come behind one. It may hand out one of them twice.
func behind(fn api.Func, pc int) iter.Seq[int] {
	return func(yield func(int) bool) {
		in := fn.Code[pc]
		switch in.Op {
		case api.OpEnd:
		case api.OpJump:
			yield(in.A)
		case api.OpSelect:
			choose(fn.Selects[in.A], yield)
		case api.OpIf:
			if !yield(in.B) {
				return
			}
			fallthrough
		default:
			// a right program's code has a next place wherever it goes on to it.
			yield(pc + 1)
		}
	}
}

// choose hands out the places at which a select may go on.
func choose(s api.Select, yield func(int) bool) {
	for _, c := range s.Cases {
		if !yield(c.To) {
			return
		}
	}
	if s.Else != -1 {
		yield(s.Else)
	}
}

// behindAll are the places that may come behind one of some.
func behindAll(fn api.Func, some places) places {
	var out places
	for pc := range fn.Code {
		if some[pc] {
			for next := range behind(fn, pc) {
				out[next] = true
			}
		}
	}
	return out
}

// locals are those of some places that are local.
func locals(fn api.Func, some places) places {
	for pc, in := range fn.Code {
		some[pc] = some[pc] && prog.Local(in.Op)
	}
	return some
}

// grown are some places and all that may be come to from them, on ways that lead on from operations of a sort alone.
func grown(fn api.Func, seen places, leadsOn func(api.Op) bool) places {
	for {
		before := seen
		for pc, in := range fn.Code {
			if seen[pc] && leadsOn(in.Op) {
				for next := range behind(fn, pc) {
					seen[next] = true
				}
			}
		}
		if seen == before {
			return seen
		}
	}
}

// always is the sort that all operations are of.
func always(api.Op) bool { return true }

// onRing tells whether a place is local and a local way leads from it back to it.
func onRing(fn api.Func, pc int) bool {
	return prog.Local(fn.Code[pc].Op) && grown(fn, behindAll(fn, just(pc)), prog.Local)[pc]
}

// spread are the places, function by function, that may be come to from a place, or in a goroutine that is spawned
// on the way, or in one that such a one spawns.
func spread(p api.Prog, f, pc int) [api.MaxFuncs]places {
	var seen [api.MaxFuncs]places
	seen[f][pc] = true
	for {
		before := seen
		for f, fn := range p.Funcs {
			seen[f] = grown(fn, seen[f], always)
			for pc, in := range fn.Code {
				if seen[f][pc] && in.Op == api.OpSpawn {
					seen[in.B][0] = true
				}
			}
		}
		if seen == before {
			return seen
		}
	}
}
