package prog

import "scarab/api"

// marks are registers that an instruction has to do with. An instruction may name one of them twice.
type marks [api.MaxRegs]bool

// list is the numbers of those that are marked, rising.
func (m marks) list() []int {
	var out []int
	for r, marked := range m {
		if marked {
			out = append(out, r)
		}
	}
	return out
}

// Reads are the registers that an instruction reads.
func Reads(p api.Prog, f, pc int) ([]int, api.Errno) {
	reads, _, e := touched(p, f, pc)
	return reads.list(), e
}

// Sets are the registers that an instruction sets.
func Sets(p api.Prog, f, pc int) ([]int, api.Errno) {
	_, sets, e := touched(p, f, pc)
	return sets.list(), e
}

// touched marks the registers that an instruction reads, and those that it sets.
func touched(p api.Prog, f, pc int) (reads, sets marks, e api.Errno) {
	if wrong, _ := Check(p); wrong != api.OK {
		return marks{}, marks{}, api.ErrProg
	}
	if !below(int64(f), len(p.Funcs)) || !below(int64(pc), len(p.Funcs[f].Code)) {
		return marks{}, marks{}, api.ErrArg
	}
	in := p.Funcs[f].Code[pc]
	form, all := Form(in.Op), operands(in)
	for i := range len(form) {
		x := all[i]
		switch form[i] {
		case 'r':
			if i == 0 && setsFirst(in.Op) {
				sets[x] = true
			} else {
				reads[x] = true
			}
		case 'w':
			reads[x] = true
		case 'o':
			if x != -1 {
				sets[x] = true
			}
		case 'p':
			for k := range p.Funcs[in.B].Params {
				reads[in.C+k] = true
			}
		case 's':
			reads, sets = touchedBySelect(p.Funcs[f].Selects[x])
		}
	}
	return reads, sets, api.OK
}

// setsFirst tells whether an operation whose first operand is a register sets it: its letter does not.
func setsFirst(op api.Op) bool {
	switch op {
	case api.OpIf, api.OpAssert, api.OpJoin, api.OpNote:
		return false
	}
	return true
}

// touchedBySelect marks what any of a select's cases would read or set.
func touchedBySelect(s api.Select) (reads, sets marks) {
	for _, c := range s.Cases {
		switch {
		case c.Send:
			reads[c.Reg] = true
		case c.Reg != -1:
			sets[c.Reg] = true
		}
	}
	return reads, sets
}
