package flow_test

import (
	"cmp"
	"slices"
	"testing"

	"scarab/api"
	"scarab/flow"
	"scarab/prog"
	"scarab/sample"
)

// counter is the program of the chapter's first example.
func counter() api.Prog {
	return api.Prog{Funcs: []api.Func{{Regs: 2, Code: []api.Instr{
		{Op: api.OpConst, N: 3}, {Op: api.OpIf, B: 3}, {Op: api.OpEnd}, {Op: api.OpSub, C: 1}, {Op: api.OpJump, A: 1},
	}}}}
}

// spawner is the program of the chapter's second example.
func spawner() api.Prog {
	return api.Prog{Vars: make([]api.Var, 2), Locks: 1, Funcs: []api.Func{
		{Regs: 1, Code: []api.Instr{{Op: api.OpLoad, B: 1}, {Op: api.OpSpawn, A: -1, B: 1}, {Op: api.OpEnd}}},
		{Code: []api.Instr{{Op: api.OpLock}, {Op: api.OpEnd}}},
	}}
}

// chain is a program of as many functions as there may be: each one spawns the one ahead of it, main the last one but
// one; the last one is spawned by itself alone. Each of them stores to a variable of its own.
func chain() api.Prog {
	p := api.Prog{Vars: make([]api.Var, api.MaxVars)}
	for f := range api.MaxFuncs {
		to := f - 1
		if f == 0 {
			to = api.MaxFuncs - 2
		}
		if f == api.MaxFuncs-1 {
			to = f
		}
		p.Funcs = append(p.Funcs, api.Func{Regs: 1, Code: []api.Instr{
			{Op: api.OpJump, A: 2}, {Op: api.OpNote}, {Op: api.OpSpawn, A: -1, B: to}, {Op: api.OpStore, A: f}, {Op: api.OpEnd},
		}})
	}
	return p
}

// backward is a function of as many places as there may be, each of which jumps to the one ahead of it.
func backward() api.Prog {
	code := []api.Instr{{Op: api.OpEnd}}
	for pc := range api.MaxCode - 1 {
		code = append(code, api.Instr{Op: api.OpJump, A: pc})
	}
	return one(0, code...)
}

// one is a program of one function.
func one(regs int, code ...api.Instr) api.Prog {
	return api.Prog{Funcs: []api.Func{{Regs: regs, Code: code}}}
}

// programs are those that most tests go through.
func programs() []api.Prog {
	out := []api.Prog{counter(), spawner(), chain(), backward(), every()}
	for seed := range uint64(25) {
		out = append(out, sample.Prog(seed))
	}
	return out
}

// short are programs whose local ways are longer than those of programs: few visible instructions, many jumps.
func short() []api.Prog {
	var out []api.Prog
	for seed := range uint64(60) {
		p := sample.Prog(seed)
		for f := range p.Funcs {
			code := p.Funcs[f].Code
			for pc := range code[:len(code)-1] {
				if in := code[pc]; prog.Visible(in.Op) && (seed+uint64(pc))%5 != 0 {
					code[pc] = api.Instr{Op: api.OpJump, A: min(pc+1+pc%3, len(code)-1)}
				} else if p.Funcs[f].Regs > 0 && prog.Local(in.Op) && (seed+uint64(pc))%4 == 0 {
					code[pc] = api.Instr{Op: api.OpIf, A: pc % p.Funcs[f].Regs, B: min(pc+2, len(code)-1)}
				}
			}
			if (seed+uint64(f))%3 > 0 {
				code[len(code)-1] = api.Instr{Op: api.OpEnd}
			}
		}
		out = append(out, p)
	}
	return out
}

// every has each operation that touches something, and a select of each shape.
func every() api.Prog {
	return api.Prog{
		Vars:  []api.Var{{}, {}, {Atomic: true}, {Atomic: true}, {Atomic: true}},
		Locks: 4,
		Chans: []int{0, 1, 2, 3},
		Funcs: []api.Func{{Regs: 3, Selects: []api.Select{
			{Cases: []api.Case{{Chan: 3, Reg: -1, To: 20}, {Send: true, Chan: 1, To: 3}, {Chan: 3, Reg: 1, To: 3}}, Else: -1},
			{Cases: []api.Case{{Chan: 2, Reg: -1, To: 7}}, Else: 2},
			{Cases: []api.Case{{Chan: 0, Reg: -1, To: 7}}, Else: 7},
		}, Code: []api.Instr{
			{Op: api.OpLoad, A: 0, B: 1}, {Op: api.OpStore, A: 1, B: 0}, {Op: api.OpBump, A: 0, B: 2, C: 1},
			{Op: api.OpCas, A: 0, B: 3, C: 1, N: 2}, {Op: api.OpAwait, A: 4, B: 2}, {Op: api.OpLock, A: 1},
			{Op: api.OpUnlock, A: 2}, {Op: api.OpTry, A: 0, B: 3}, {Op: api.OpSend, A: 1, B: 2},
			{Op: api.OpRecv, A: 1, B: 2, C: 0}, {Op: api.OpClose, A: 3}, {Op: api.OpSelect, A: 0},
			{Op: api.OpSelect, A: 1}, {Op: api.OpSelect, A: 2}, {Op: api.OpSpawn, A: 2, B: 0, C: 0},
			{Op: api.OpJoin, A: 1}, {Op: api.OpYield}, {Op: api.OpNote, A: 1, N: 9}, {Op: api.OpAssert, A: 1},
			{Op: api.OpIf, A: 1, B: 20}, {Op: api.OpMove, A: 1, B: 2}, {Op: api.OpJump, A: 21},
		}}},
	}
}

// next is what may come behind a place.
func next(t *testing.T, p api.Prog, f, pc int) []int {
	t.Helper()
	l, e := flow.Next(p, f, pc)
	if e != api.OK {
		t.Fatalf("Next {%d %d}: %v", f, pc, e)
	}
	return l
}

// local tells whether a place is local.
func local(p api.Prog, f, pc int) bool { return prog.Local(p.Funcs[f].Code[pc].Op) }

// walk is the places that may be come to from one, in the order of the walk; on tells which places lead on.
func walk(t *testing.T, p api.Prog, f int, from []int, on func(pc int) bool) []int {
	t.Helper()
	out := slices.Clone(from)
	for i := 0; i < len(out); i++ {
		if on(out[i]) {
			for _, x := range next(t, p, f, out[i]) {
				if !slices.Contains(out, x) {
					out = append(out, x)
				}
			}
		}
	}
	return out
}

// object is what an access is to.
type object struct{ kind, num int }

// merged is accesses as the chapter lists them.
func merged(all []api.Access) []api.Access {
	writes := map[object]bool{}
	for _, a := range all {
		writes[object{a.Kind, a.Num}] = writes[object{a.Kind, a.Num}] || a.Write
	}
	var out []api.Access
	for o, write := range writes {
		out = append(out, api.Access{Kind: o.kind, Num: o.num, Write: write})
	}
	slices.SortFunc(out, func(a, b api.Access) int {
		return cmp.Or(cmp.Compare(a.Kind, b.Kind), cmp.Compare(a.Num, b.Num))
	})
	return out
}

// holds tells whether each of some accesses lies in others: to the same object, and no write in a read.
func holds(all, some []api.Access) bool {
	for _, a := range some {
		written := api.Access{Kind: a.Kind, Num: a.Num, Write: true}
		if !slices.Contains(all, a) && !slices.Contains(all, written) {
			return false
		}
	}
	return true
}

// eachPlace goes through all places of a program.
func eachPlace(p api.Prog, look func(f, pc int)) {
	for f, fn := range p.Funcs {
		for pc := range fn.Code {
			look(f, pc)
		}
	}
}
