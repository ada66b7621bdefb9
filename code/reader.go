package code

import (
	"bytes"
	"math"

	"scarab/api"
	"scarab/octet"
	"scarab/prog"
)

// operands is how many operands an instruction has: A, B, C and N.
const operands = 4

// reader reads a program from bytes. It keeps the first thing that is wrong, and where that begins; behind it
// everything is read as 0, so that all lists end.
type reader struct {
	in    *octet.Reader
	wrong api.Errno
	at    int // where what was read last begins
}

// fail tells that what was read last is wrong, unless something ahead of it was.
func (r *reader) fail(e api.Errno) {
	if r.wrong == api.OK {
		r.wrong = e
	}
}

// list reads how many things there are, at most so many, and then each of them.
func list[T any](r *reader, most uint64, read func() T) []T {
	var out []T
	for range r.count(most) {
		out = append(out, read())
	}
	return out
}

func (r *reader) magic() {
	b, _ := r.in.Take(len(magic))
	if string(b) != magic {
		r.fail(api.ErrMagic)
	}
}

func (r *reader) program() api.Prog {
	var p api.Prog
	p.Vars = list(r, api.MaxVars, r.variable)
	p.Locks = r.number()
	p.Chans = list(r, api.MaxChans, r.number)
	p.Funcs = list(r, api.MaxFuncs, r.function)
	return p
}

func (r *reader) variable() api.Var {
	var v api.Var
	v.Atomic = r.flag()
	v.Init = r.signed()
	return v
}

func (r *reader) function() api.Func {
	var fn api.Func
	fn.Params = r.number()
	fn.Regs = r.number()
	fn.Selects = list(r, api.MaxSelects, r.choice)
	fn.Code = list(r, api.MaxCode, r.instr)
	return fn
}

func (r *reader) choice() api.Select {
	var s api.Select
	s.Cases = list(r, api.MaxCases, r.branch)
	s.Else = r.number() - 1
	return s
}

func (r *reader) branch() api.Case {
	var c api.Case
	c.Send = r.flag()
	c.Chan = r.number()
	c.Reg = r.number() - 1
	c.To = r.number()
	return c
}

func (r *reader) instr() api.Instr {
	op := api.Op(r.number())
	form := prog.Form(op)
	if form == "" {
		r.fail(api.ErrOp)
		return api.Instr{}
	}
	var x [operands]int64
	for i := range operands {
		switch form[i] {
		case '-':
		case 'o':
			x[i] = int64(r.number()) - 1
		case 'n':
			x[i] = r.signed()
		default:
			x[i] = int64(r.number())
		}
	}
	return api.Instr{Op: op, A: int(x[0]), B: int(x[1]), C: int(x[2]), N: x[3]}
}

// sum reads the sum of all bytes ahead of it, which are b's.
func (r *reader) sum(b []byte) {
	if !r.begin() {
		return
	}
	there, e := r.in.Take(sumBytes)
	r.fail(e)
	sum := octet.Fixed(octet.Sum(b[:r.at]))
	if !bytes.Equal(there, sum[:]) {
		r.fail(api.ErrSum)
	}
}

// end sees that nothing is left.
func (r *reader) end() {
	if r.begin() {
		r.fail(r.in.End())
	}
}

// begin notes where the next thing begins, and tells whether it is still to be read.
func (r *reader) begin() bool {
	if r.wrong != api.OK {
		return false
	}
	r.at = r.in.At()
	return true
}

// unsigned reads a number without a sign.
func (r *reader) unsigned() uint64 {
	if !r.begin() {
		return 0
	}
	x, e := r.in.Uint()
	r.fail(e)
	return x
}

// signed reads a number with a sign.
func (r *reader) signed() int64 {
	if !r.begin() {
		return 0
	}
	x, e := r.in.Int()
	r.fail(e)
	return x
}

// number reads a number that the program has as an int.
func (r *reader) number() int {
	x := r.unsigned()
	if x > math.MaxInt32 {
		r.fail(api.ErrForm)
		return 0
	}
	return int(x)
}

// count reads how many things there are. What is too great for a number is too many first of all.
func (r *reader) count(most uint64) int {
	x := r.unsigned()
	if x > most {
		r.fail(api.ErrSize)
		return 0
	}
	return int(x)
}

// flag reads 0 or 1.
func (r *reader) flag() bool {
	x := r.unsigned()
	if x > 1 {
		r.fail(api.ErrForm)
	}
	return x == 1
}
