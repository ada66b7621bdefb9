package prog

import "scarab/api"

// Check tells whether a program is right, and where it is not.
func Check(p api.Prog) (api.Errno, api.Spot) {
	if e := checkSizes(p); e != api.OK {
		return e, api.Spot{}
	}
	for f := range p.Funcs {
		if e, pc := checkFunc(p, f); e != api.OK {
			return e, api.Spot{Func: f, PC: pc}
		}
	}
	return api.OK, api.Spot{}
}

// checkSizes looks at what stands outside of the functions.
func checkSizes(p api.Prog) api.Errno {
	if len(p.Vars) > api.MaxVars || !between(p.Locks, 0, api.MaxLocks) ||
		len(p.Chans) > api.MaxChans || !between(len(p.Funcs), 1, api.MaxFuncs) {
		return api.ErrSize
	}
	for _, room := range p.Chans {
		if !between(room, 0, api.MaxCap) {
			return api.ErrCap
		}
	}
	return api.OK
}

// checkFunc looks at a function, and tells the place in its code of what is wrong there.
func checkFunc(p api.Prog, f int) (api.Errno, int) {
	fn := p.Funcs[f]
	if !shaped(fn) || f == 0 && fn.Params != 0 {
		return api.ErrFunc, 0
	}
	for _, s := range fn.Selects {
		if e := checkSelect(p, fn, s); e != api.OK {
			return e, 0
		}
	}
	for pc, in := range fn.Code {
		if e := checkInstr(p, fn, in); e != api.OK {
			return e, pc
		}
	}
	last := len(fn.Code) - 1
	switch fn.Code[last].Op {
	case api.OpJump, api.OpEnd, api.OpSelect:
		return api.OK, 0
	}
	return api.ErrFall, last
}

// shaped tells whether a function has as much of everything as it may have.
func shaped(fn api.Func) bool {
	if !between(fn.Regs, 0, api.MaxRegs) || !between(fn.Params, 0, fn.Regs) ||
		!between(len(fn.Code), 1, api.MaxCode) || len(fn.Selects) > api.MaxSelects {
		return false
	}
	for _, s := range fn.Selects {
		if !between(len(s.Cases), 1, api.MaxCases) {
			return false
		}
	}
	return true
}

// checkSelect looks at a select's cases, and then at its other way.
func checkSelect(p api.Prog, fn api.Func, s api.Select) api.Errno {
	for _, c := range s.Cases {
		if e := checkCase(p, fn, c); e != api.OK {
			return e
		}
	}
	if s.Else != -1 && !below(int64(s.Else), len(fn.Code)) {
		return api.ErrTarget
	}
	return api.OK
}

// checkCase looks at a case of a select.
func checkCase(p api.Prog, fn api.Func, c api.Case) api.Errno {
	none := c.Reg == -1 && !c.Send
	switch {
	case !below(int64(c.Chan), len(p.Chans)):
		return api.ErrObj
	case !none && !below(int64(c.Reg), fn.Regs):
		return api.ErrReg
	case c.Send && p.Chans[c.Chan] == 0:
		return api.ErrKind
	case !below(int64(c.To), len(fn.Code)):
		return api.ErrTarget
	}
	return api.OK
}

// checkInstr looks at an instruction: first that it has no operand too many, then at those that it has.
func checkInstr(p api.Prog, fn api.Func, in api.Instr) api.Errno {
	form, all := Form(in.Op), operands(in)
	if form == "" {
		return api.ErrOp
	}
	for i := range len(form) {
		if form[i] == '-' && all[i] != 0 {
			return api.ErrUnused
		}
	}
	for i := range len(form) {
		if e := checkOperand(p, fn, in, form[i], all[i]); e != api.OK {
			return e
		}
	}
	return api.OK
}

// checkOperand looks at one operand, by its letter. What the operands ahead of it name is there by then.
func checkOperand(p api.Prog, fn api.Func, in api.Instr, letter byte, x int64) api.Errno {
	switch letter {
	case 'o':
		if x == -1 {
			return api.OK
		}
		fallthrough
	case 'r', 'w':
		return unless(below(x, fn.Regs), api.ErrReg)
	case 'p':
		return unless(roomFor(p.Funcs[in.B].Params, in.C, fn.Regs), api.ErrReg)
	case 'a':
		if below(x, len(p.Vars)) {
			return unless(p.Vars[x].Atomic, api.ErrKind)
		}
		fallthrough
	case 'v':
		return unless(below(x, len(p.Vars)), api.ErrObj)
	case 'l':
		return unless(below(x, p.Locks), api.ErrObj)
	case 'c':
		return unless(below(x, len(p.Chans)), api.ErrObj)
	case 's':
		return unless(below(x, len(fn.Selects)), api.ErrObj)
	case 'f':
		return unless(below(x, len(p.Funcs)), api.ErrObj)
	case 't':
		return unless(below(x, len(fn.Code)), api.ErrTarget)
	}
	return api.OK
}

// roomFor tells whether k parameters can come from the registers from first on, of regs in all.
func roomFor(k, first, regs int) bool {
	switch {
	case k == 0:
		return first == 0
	case first < 0:
		return false
	case k > 0:
		return first <= regs-k
	}
	// a function further on may have any Params yet: regs-k could go round.
	return first+k <= regs
}

// between tells whether x is from least to most.
func between(x, least, most int) bool { return least <= x && x <= most }

// below tells whether x numbers one of n things.
func below(x int64, n int) bool { return 0 <= x && x < int64(n) }

// unless is an error, or none where all is well.
func unless(well bool, e api.Errno) api.Errno {
	if well {
		return api.OK
	}
	return e
}
