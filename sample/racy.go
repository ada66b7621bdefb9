package sample

import "scarab/api"

// Racy is a right program whose goroutines load and store variables, most of them plain, more often than not with a lock
// round it, which is most often the same for a variable, and now and then with two.
func Racy(seed uint64) api.Prog {
	m := &maker{dice: dice(seed), most: 3}
	m.p.Vars = make([]api.Var, 1+m.below(3))
	m.p.Vars[0].Atomic = m.below(4) == 0
	m.p.Locks = 1 + m.below(3)
	m.p.Chans = []int{m.upTo(1)}
	m.p.Funcs = make([]api.Func, 3)
	care := m.below(4)
	for f := range m.p.Funcs {
		fn := &m.p.Funcs[f]
		fn.Regs = 2
		if f == 0 {
			fn.Code = []api.Instr{{Op: api.OpSpawn, A: -1, B: 1}, {Op: api.OpSpawn, A: -1, B: 2}}
		}
		for range 1 + m.below(3) {
			fn.Code = append(fn.Code, m.touch(fn, care)...)
		}
		fn.Code = append(fn.Code, api.Instr{Op: api.OpEnd})
	}
	return m.p
}

// touch is a load or a store of a variable; the more care, the more often with a lock round it; else it may come behind a
// step that has nothing to do with it.
func (m *maker) touch(fn *api.Func, care int) []api.Instr {
	v := m.below(len(m.p.Vars))
	in := api.Instr{Op: api.OpLoad, A: m.below(fn.Regs), B: v}
	if m.below(2) == 0 {
		in = api.Instr{Op: api.OpStore, A: v, B: m.below(fn.Regs)}
	}
	switch {
	case m.upTo(3) <= care:
		return m.locked(in, v%m.p.Locks)
	case m.below(3) > 0:
		return []api.Instr{in}
	}
	others := [...]api.Op{api.OpTry, api.OpUnlock, api.OpSend, api.OpRecv, api.OpClose, api.OpNote, api.OpYield}
	return []api.Instr{m.instr(fn, others[m.below(len(others))]), in}
}

// locked is an instruction with a lock taken ahead of it and given back behind it, now and then another one, or two.
func (m *maker) locked(in api.Instr, l int) []api.Instr {
	if m.below(8) == 0 {
		l = m.below(m.p.Locks)
	}
	code := []api.Instr{{Op: api.OpLock, A: l}, in, {Op: api.OpUnlock, A: l}}
	if next := (l + 1) % m.p.Locks; next != l && m.below(3) == 0 {
		code = []api.Instr{code[0], {Op: api.OpLock, A: next}, in, {Op: api.OpUnlock, A: next}, code[2]}
	}
	return code
}
