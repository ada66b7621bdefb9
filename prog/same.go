package prog

import (
	"slices"

	"scarab/api"
)

// Same tells whether two programs are the same.
func Same(a, b api.Prog) bool {
	return slices.Equal(a.Vars, b.Vars) && a.Locks == b.Locks &&
		slices.Equal(a.Chans, b.Chans) && slices.EqualFunc(a.Funcs, b.Funcs, sameFunc)
}

func sameFunc(a, b api.Func) bool {
	return a.Params == b.Params && a.Regs == b.Regs &&
		slices.EqualFunc(a.Code, b.Code, sameInstr) && slices.EqualFunc(a.Selects, b.Selects, sameSelect)
}

func sameInstr(a, b api.Instr) bool { return a == b }

func sameSelect(a, b api.Select) bool {
	return a.Else == b.Else && slices.Equal(a.Cases, b.Cases)
}

// Copy is a program in memory of its own.
func Copy(p api.Prog) api.Prog {
	p.Vars, p.Chans, p.Funcs = slices.Clone(p.Vars), slices.Clone(p.Chans), slices.Clone(p.Funcs)
	for f := range p.Funcs {
		fn := &p.Funcs[f]
		fn.Code, fn.Selects = slices.Clone(fn.Code), slices.Clone(fn.Selects)
		for s := range fn.Selects {
			fn.Selects[s].Cases = slices.Clone(fn.Selects[s].Cases)
		}
	}
	return p
}
