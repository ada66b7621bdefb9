package state

import (
	"scarab/api"
	"scarab/prog"
	"scarab/word"
)

// run is a goroutine behind its local instructions, as far as the fuel goes. One that is not live runs none.
func run(code []api.Instr, it api.Go, fuel int) api.Go {
	for it.Status == api.GoLive && prog.Local(code[it.PC].Op) {
		if fuel == 0 {
			it.Status = api.GoSpun
			return it
		}
		fuel--
		it = local(it, code[it.PC])
	}
	return it
}

// local is a live goroutine behind one local instruction.
func local(it api.Go, in api.Instr) api.Go {
	switch in.Op {
	case api.OpConst:
		it.Regs[in.A] = in.N
	case api.OpMove:
		it.Regs[in.A] = it.Regs[in.B]
	case api.OpJump:
		it.PC = in.A
		return it
	case api.OpIf:
		if it.Regs[in.A] != 0 {
			it.PC = in.B
			return it
		}
	case api.OpAssert:
		if it.Regs[in.A] == 0 {
			return ended(it, api.GoFailed, api.WhyAssert)
		}
	case api.OpEnd:
		return ended(it, api.GoDone, 0)
	default:
		x, e := word.Apply(in.Op, it.Regs[in.B], it.Regs[in.C])
		switch e {
		case api.ErrDivide:
			return ended(it, api.GoFailed, api.WhyZero)
		case api.ErrShift:
			return ended(it, api.GoFailed, api.WhyShift)
		}
		it.Regs[in.A] = x
	}
	it.PC++
	return it
}

// ended is a goroutine that has ended where it stands: of its registers nothing is left.
func ended(it api.Go, status, why int) api.Go {
	return api.Go{Status: status, Func: it.Func, PC: it.PC, Why: why}
}
