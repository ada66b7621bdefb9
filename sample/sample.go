// Package sample makes right programs for the tests of other packages, one for each seed.
package sample

import (
	"math"

	"scarab/api"
	"scarab/prog"
)

// dice tells numbers that hang on what it was at first alone.
type dice uint64

// roll is the next number (splitmix64).
func (d *dice) roll() uint64 {
	*d += 0x9E3779B97F4A7C15
	x := uint64(*d)
	x = (x ^ x>>30) * 0xBF58476D1CE4E5B9
	x = (x ^ x>>27) * 0x94D049BB133111EB
	return x ^ x>>31
}

// below is a number from 0 to n - 1, of n from 1 on.
func (d *dice) below(n int) int { return int(d.roll() % uint64(n)) }

// upTo is a number from 0 to n.
func (d *dice) upTo(n int) int { return d.below(n + 1) }

// any is any number, more often one at an edge of its bytes than not.
func (d *dice) any() int64 {
	edges := [...]int64{0, 1, -1, 63, 64, -64, -65, math.MaxInt32, math.MaxInt64, math.MinInt64}
	if d.below(3) == 0 {
		return int64(d.roll())
	}
	return edges[d.below(len(edges))]
}

// maker makes one program; its numbers are from 0 to most, or any, if that is 0.
type maker struct {
	dice
	p    api.Prog
	most int
}

// number is a number that stands in the program.
func (m *maker) number() int64 {
	if m.most > 0 {
		return int64(m.upTo(m.most))
	}
	return m.any()
}

// Prog is a right program: any number of everything that it may have, any operations.
func Prog(seed uint64) api.Prog {
	m := &maker{dice: dice(seed)}
	for range m.upTo(api.MaxVars) {
		m.p.Vars = append(m.p.Vars, api.Var{Atomic: m.below(2) == 0, Init: m.number()})
	}
	m.p.Locks = m.upTo(api.MaxLocks)
	for range m.upTo(api.MaxChans) {
		m.p.Chans = append(m.p.Chans, m.upTo(api.MaxCap))
	}
	// spawns ask for the parameters of functions further on: the codes come behind.
	m.p.Funcs = make([]api.Func, 1+m.below(api.MaxFuncs))
	for f := range m.p.Funcs {
		regs := m.upTo(api.MaxRegs)
		m.p.Funcs[f].Regs = regs
		if f > 0 {
			m.p.Funcs[f].Params = m.upTo(regs)
		}
	}
	for f := range m.p.Funcs {
		m.fill(&m.p.Funcs[f])
	}
	return m.p
}

// fill makes a function's selects and its code.
func (m *maker) fill(fn *api.Func) {
	fn.Code = make([]api.Instr, 1+m.below(api.MaxCode))
	if len(m.p.Chans) > 0 {
		for range m.upTo(api.MaxSelects) {
			fn.Selects = append(fn.Selects, m.choice(fn))
		}
	}
	last := len(fn.Code) - 1
	for pc := range last {
		fn.Code[pc] = m.instr(fn, api.Op(1+m.below(int(api.OpNote))))
	}
	fn.Code[last] = api.Instr{Op: api.OpEnd}
	if m.below(2) == 0 {
		fn.Code[last] = api.Instr{Op: api.OpJump, A: m.below(len(fn.Code))}
	} else if len(fn.Selects) > 0 {
		fn.Code[last] = api.Instr{Op: api.OpSelect, A: m.below(len(fn.Selects))}
	}
}

// choice is a select, of a program that has channels.
func (m *maker) choice(fn *api.Func) api.Select {
	s := api.Select{Else: m.upTo(len(fn.Code)) - 1}
	for range 1 + m.below(api.MaxCases) {
		c := api.Case{Chan: m.below(len(m.p.Chans)), Reg: m.upTo(fn.Regs) - 1, To: m.below(len(fn.Code))}
		c.Send = c.Reg >= 0 && m.p.Chans[c.Chan] > 0 && m.below(2) == 0
		s.Cases = append(s.Cases, c)
	}
	return s
}

// instr is an instruction of an operation, or a yield, where there is none or something that it needs is not there.
func (m *maker) instr(fn *api.Func, op api.Op) api.Instr {
	form := prog.Form(op)
	var x [4]int64
	for i := range len(form) {
		n, ok := m.operand(fn, form[i], int(x[1]))
		if !ok {
			return api.Instr{Op: api.OpYield}
		}
		x[i] = n
	}
	if form == "" {
		return api.Instr{Op: api.OpYield}
	}
	return api.Instr{Op: op, A: int(x[0]), B: int(x[1]), C: int(x[2]), N: x[3]}
}

// operand is an operand of a letter, and whether there is one; b is the operand B, if that stands ahead.
func (m *maker) operand(fn *api.Func, letter byte, b int) (int64, bool) {
	switch letter {
	case '-':
		return 0, true
	case 'n':
		return m.number(), true
	case 'o':
		return int64(m.upTo(fn.Regs) - 1), true
	case 'p':
		return m.first(fn.Regs, m.p.Funcs[b].Params)
	case 'a':
		return m.atomic()
	}
	n := m.many(fn, letter)
	if n == 0 {
		return 0, false
	}
	return int64(m.below(n)), true
}

// many is how many things of a letter there are.
func (m *maker) many(fn *api.Func, letter byte) int {
	switch letter {
	case 'v':
		return len(m.p.Vars)
	case 'l':
		return m.p.Locks
	case 'c':
		return len(m.p.Chans)
	case 's':
		return len(fn.Selects)
	case 'f':
		return len(m.p.Funcs)
	case 't':
		return len(fn.Code)
	}
	return fn.Regs
}

// first is the first of k registers, of regs in all.
func (m *maker) first(regs, k int) (int64, bool) {
	switch {
	case k == 0:
		return 0, true
	case k > regs:
		return 0, false
	}
	return int64(m.upTo(regs - k)), true
}

// atomic is an atomic variable.
func (m *maker) atomic() (int64, bool) {
	if len(m.p.Vars) == 0 {
		return 0, false
	}
	v := m.below(len(m.p.Vars))
	return int64(v), m.p.Vars[v].Atomic
}
