package code_test

import (
	"math"
	"slices"

	"scarab/api"
	"scarab/octet"
	"scarab/prog"
	"scarab/sample"
)

// ends is the program of the chapter's first example.
func ends() api.Prog {
	return api.Prog{Funcs: []api.Func{{Code: []api.Instr{{Op: api.OpEnd}}}}}
}

// small is a program that has a thing of each kind.
func small() api.Prog {
	return api.Prog{
		Vars:  []api.Var{{Atomic: true, Init: -1}, {Init: math.MinInt64}},
		Locks: 2,
		Chans: []int{0, 3},
		Funcs: []api.Func{{Regs: 3, Code: []api.Instr{
			{Op: api.OpConst, A: 1, N: 200},
			{Op: api.OpBump, A: -1, B: 0, C: 2},
			{Op: api.OpCas, A: 0, B: 0, C: 1, N: 2},
			{Op: api.OpSpawn, A: 2, B: 1, C: 1},
			{Op: api.OpSelect},
		}, Selects: []api.Select{
			{Cases: []api.Case{{Send: true, Chan: 1, Reg: 2, To: 1}, {Chan: 0, Reg: -1, To: 4}}, Else: -1},
		}}, {Params: 2, Regs: 2, Code: []api.Instr{{Op: api.OpYield}, {Op: api.OpEnd}}}},
	}
}

// greatest has of everything as much as it may have.
func greatest() api.Prog {
	p := api.Prog{Vars: make([]api.Var, api.MaxVars), Locks: api.MaxLocks, Funcs: make([]api.Func, api.MaxFuncs)}
	for range api.MaxChans {
		p.Chans = append(p.Chans, api.MaxCap)
	}
	for f := range p.Funcs {
		fn := api.Func{Regs: api.MaxRegs}
		for range api.MaxSelects {
			fn.Selects = append(fn.Selects, api.Select{Cases: make([]api.Case, api.MaxCases), Else: api.MaxCode - 1})
		}
		for range api.MaxCode - 1 {
			fn.Code = append(fn.Code, api.Instr{Op: api.OpNote, A: api.MaxRegs - 1, N: math.MinInt64})
		}
		fn.Code = append(fn.Code, api.Instr{Op: api.OpEnd})
		p.Funcs[f] = fn
	}
	return p
}

// programs are those that most tests go through.
func programs() []api.Prog {
	out := []api.Prog{ends(), small(), greatest()}
	for seed := range uint64(30) {
		out = append(out, sample.Prog(seed))
	}
	return out
}

// field is a number in a program's bytes: what is asked of it, how many there may be, and the number itself.
type field struct {
	kind byte // c: how many, f: 0 or 1, o: an Op, s: with a sign, n: another one
	most uint64
	x    uint64
}

// fields are the numbers of a program, as the chapter lists them.
type fields []field

func (f *fields) add(kind byte, x int)    { *f = append(*f, field{kind: kind, x: uint64(x)}) }
func (f *fields) many(most uint64, n int) { *f = append(*f, field{'c', most, uint64(n)}) }
func (f *fields) signed(x int64)          { *f = append(*f, field{kind: 's', x: octet.Zig(x)}) }

func (f *fields) flag(set bool) {
	if set {
		f.add('f', 1)
	} else {
		f.add('f', 0)
	}
}

func fieldsOf(p api.Prog) fields {
	var out fields
	out.many(8, len(p.Vars))
	for _, v := range p.Vars {
		out.flag(v.Atomic)
		out.signed(v.Init)
	}
	out.add('n', p.Locks)
	out.many(4, len(p.Chans))
	for _, c := range p.Chans {
		out.add('n', c)
	}
	out.many(8, len(p.Funcs))
	for _, fn := range p.Funcs {
		out.add('n', fn.Params)
		out.add('n', fn.Regs)
		out.many(4, len(fn.Selects))
		for _, s := range fn.Selects {
			out.many(4, len(s.Cases))
			for _, c := range s.Cases {
				out.flag(c.Send)
				out.add('n', c.Chan)
				out.add('n', c.Reg+1)
				out.add('n', c.To)
			}
			out.add('n', s.Else+1)
		}
		out.many(64, len(fn.Code))
		for _, in := range fn.Code {
			out.instr(in)
		}
	}
	return out
}

func (f *fields) instr(in api.Instr) {
	f.add('o', int(in.Op))
	for i, letter := range prog.Form(in.Op) {
		x := []int{in.A, in.B, in.C, int(in.N)}[i]
		switch letter {
		case '-':
		case 'o':
			f.add('n', x+1)
		case 'n':
			f.signed(in.N)
		default:
			f.add('n', x)
		}
	}
}

// bytes are those of the fields, with the five ahead, without the sum.
func (f fields) bytes() []byte {
	out := []byte{83, 67, 82, 66, 1}
	for _, x := range f {
		out = octet.Put(out, x.x)
	}
	return out
}

// summed is bytes and their sum behind them.
func summed(b []byte) []byte {
	sum := octet.Fixed(octet.Sum(b))
	return slices.Concat(b, sum[:])
}
