package sample

import "scarab/api"

// Small is a right program with few things, small numbers and short codes, whose goroutines get in each other's way.
func Small(seed uint64) api.Prog {
	m := &maker{dice: dice(seed), most: 3}
	for range 1 + m.below(2) {
		m.p.Vars = append(m.p.Vars, api.Var{Atomic: m.below(4) > 0, Init: m.number()})
	}
	m.p.Locks = 1 + m.below(2)
	for range 1 + m.below(2) {
		m.p.Chans = append(m.p.Chans, m.upTo(2))
	}
	m.p.Funcs = make([]api.Func, 2+m.below(2))
	for f := range m.p.Funcs {
		m.p.Funcs[f].Regs = 3
		if f > 0 {
			m.p.Funcs[f].Params = m.upTo(2)
		}
	}
	for f := range m.p.Funcs {
		m.short(f)
	}
	return m.p
}

// short makes a function's selects and a short code, with a spawn at the front of main's.
func (m *maker) short(f int) {
	fn := &m.p.Funcs[f]
	fn.Code = make([]api.Instr, 4+m.below(5))
	for range 2 {
		fn.Selects = append(fn.Selects, m.choice(fn))
	}
	for pc := range fn.Code {
		fn.Code[pc] = m.instr(fn, m.often())
	}
	if f == 0 {
		fn.Code[0] = api.Instr{Op: api.OpSpawn, A: 0, B: len(m.p.Funcs) - 1}
	}
	fn.Code[len(fn.Code)-1] = api.Instr{Op: api.OpEnd}
}

// often is an operation, far more often a visible one than not.
func (m *maker) often() api.Op {
	if m.below(4) > 0 {
		return api.OpLoad + api.Op(m.below(int(api.OpNote-api.OpLoad)+1))
	}
	locals := [...]api.Op{api.OpConst, api.OpConst, api.OpConst, api.OpMove, api.OpAdd, api.OpEq, api.OpDiv, api.OpShl,
		api.OpIf, api.OpJump, api.OpAssert, api.OpEnd}
	return locals[m.below(len(locals))]
}
