package prog_test

import (
	"math"
	"reflect"
	"testing"

	"scarab/api"
	"scarab/prog"
	"scarab/sample"
)

// told asks what Check says of a program.
func told(t *testing.T, what string, p api.Prog, want api.Errno, f, pc int) {
	t.Helper()
	if e, spot := prog.Check(p); e != want || spot != (api.Spot{Func: f, PC: pc}) {
		t.Errorf("%s: %v at %v, not %v at {%d %d}", what, e, spot, want, f, pc)
	}
}

// 3.1: the chapter's examples.
func TestCheckExamples(t *testing.T) {
	told(t, "end", one(0, end()), api.OK, 0, 0)
	told(t, "no function", api.Prog{}, api.ErrSize, 0, 0)
	told(t, "no function, not nil", api.Prog{Funcs: []api.Func{}}, api.ErrSize, 0, 0)
	told(t, "yield", one(0, yield()), api.ErrFall, 0, 0)
	told(t, "jump 1", one(0, api.Instr{Op: api.OpJump, A: 1}), api.ErrTarget, 0, 0)
	told(t, "const r0", one(0, api.Instr{Op: api.OpConst}, end()), api.ErrReg, 0, 0)
	bump := one(1, api.Instr{Op: api.OpBump}, end())
	told(t, "bump of no variable", bump, api.ErrObj, 0, 0)
	bump.Vars = []api.Var{{}}
	told(t, "bump of a plain variable", bump, api.ErrKind, 0, 0)
	bump.Vars = []api.Var{{Atomic: true}}
	told(t, "bump of an atomic variable", bump, api.OK, 0, 0)
	told(t, "yield with A 1", one(0, api.Instr{Op: api.OpYield, A: 1}, end()), api.ErrUnused, 0, 0)
	send := one(1, end())
	send.Chans = []int{0}
	send.Funcs[0].Selects = []api.Select{{Cases: []api.Case{{Send: true}}, Else: -1}}
	told(t, "a select's send, unbuffered", send, api.ErrKind, 0, 0)
	send.Chans = []int{1}
	told(t, "a select's send, buffered", send, api.OK, 0, 0)
}

// 3.1: what has a limit may come up to it, and no further.
func TestCheckSizes(t *testing.T) {
	told(t, "whole", whole(), api.OK, 0, 0)
	with := func(change func(p *api.Prog)) api.Prog {
		p := one(0, end())
		change(&p)
		return p
	}
	for n := range 12 {
		want := func(most int, e api.Errno) api.Errno {
			if n > most {
				return e
			}
			return api.OK
		}
		told(t, "vars", with(func(p *api.Prog) { p.Vars = make([]api.Var, n) }), want(8, api.ErrSize), 0, 0)
		told(t, "locks", with(func(p *api.Prog) { p.Locks = n }), want(4, api.ErrSize), 0, 0)
		told(t, "chans", with(func(p *api.Prog) { p.Chans = make([]int, n) }), want(4, api.ErrSize), 0, 0)
		told(t, "capacity", with(func(p *api.Prog) { p.Chans = []int{0, n} }), want(4, api.ErrCap), 0, 0)
		told(t, "regs", with(func(p *api.Prog) { p.Funcs[0].Regs = n }), want(8, api.ErrFunc), 0, 0)
		funcs := make([]api.Func, n+1)
		for f := range funcs {
			funcs[f].Code = []api.Instr{end()}
		}
		told(t, "funcs", api.Prog{Funcs: funcs}, want(7, api.ErrSize), 0, 0)
		told(t, "params", api.Prog{Funcs: []api.Func{funcs[0], {Regs: 3, Params: n, Code: funcs[0].Code}}}, want(3, api.ErrFunc), min(1, n/4), 0)
		told(t, "main's params", api.Prog{Funcs: []api.Func{{Regs: 8, Params: n, Code: funcs[0].Code}}}, want(0, api.ErrFunc), 0, 0)
		choices := make([]api.Select, n)
		for s := range choices {
			choices[s].Cases = []api.Case{{Reg: -1}}
		}
		told(t, "selects", with(func(p *api.Prog) { p.Chans, p.Funcs[0].Selects = []int{0}, choices }), want(4, api.ErrFunc), 0, 0)
	}
	for _, x := range far {
		told(t, "locks", with(func(p *api.Prog) { p.Locks = x }), api.ErrSize, 0, 0)
		told(t, "capacity", with(func(p *api.Prog) { p.Chans = []int{x} }), api.ErrCap, 0, 0)
		told(t, "regs", with(func(p *api.Prog) { p.Funcs[0].Regs = x }), api.ErrFunc, 0, 0)
		told(t, "params", with(func(p *api.Prog) { p.Funcs[0].Params = x }), api.ErrFunc, 0, 0)
	}
}

// 3.1: codes and cases have a least number too.
func TestCheckLengths(t *testing.T) {
	for n := range 70 {
		want := api.ErrFunc
		if n >= 1 && n <= 64 {
			want = api.OK
		}
		code := make([]api.Instr, n)
		for pc := range code {
			code[pc] = end()
		}
		told(t, "code", one(0, code...), want, 0, 0)
	}
	for n := range 8 {
		want := api.ErrFunc
		if n >= 1 && n <= 4 {
			want = api.OK
		}
		p := one(1, end())
		p.Chans = []int{0}
		p.Funcs[0].Selects = []api.Select{{Cases: []api.Case{{}}}, {Cases: make([]api.Case, n)}}
		told(t, "cases", p, want, 0, 0)
	}
}

// 3.1: a select's parts, each from its least to its greatest value.
func TestCheckSelect(t *testing.T) {
	const function, choice, receive, send = 0, 1, 0, 1
	with := func(change func(s *api.Select)) api.Prog {
		p := whole()
		change(&p.Funcs[function].Selects[choice])
		return p
	}
	for _, x := range append([]int{0, 1, 2, 3, 4, 5, 6, last, last + 1}, far...) {
		within := func(least, most int, e api.Errno) api.Errno {
			if x < least || x > most {
				return e
			}
			return api.OK
		}
		told(t, "chan", with(func(s *api.Select) { s.Cases[receive].Chan = x }), within(0, 2, api.ErrObj), 0, 0)
		told(t, "reg of a receive", with(func(s *api.Select) { s.Cases[receive].Reg = x }), within(-1, 4, api.ErrReg), 0, 0)
		told(t, "reg of a send", with(func(s *api.Select) { s.Cases[send].Reg = x }), within(0, 4, api.ErrReg), 0, 0)
		told(t, "to", with(func(s *api.Select) { s.Cases[receive].To = x }), within(0, last, api.ErrTarget), 0, 0)
		told(t, "else", with(func(s *api.Select) { s.Else = x }), within(-1, last, api.ErrTarget), 0, 0)
	}
	told(t, "a send, unbuffered", with(func(s *api.Select) { s.Cases[send].Chan = 0 }), api.ErrKind, 0, 0)
}

// 3.1: each operation's operands, each from its least to its greatest value: by letter what is the first number
// too great, and the error.
func TestCheckOperands(t *testing.T) {
	type rule struct {
		least, behind int
		e             api.Errno
	}
	rules := map[byte]rule{
		'r': {0, 5, api.ErrReg}, 'o': {-1, 5, api.ErrReg}, 'w': {0, 5, api.ErrReg}, 'p': {0, 4, api.ErrReg},
		'v': {0, 3, api.ErrObj}, 'l': {0, 3, api.ErrObj}, 'c': {0, 3, api.ErrObj}, 's': {0, 3, api.ErrObj},
		't': {0, last + 1, api.ErrTarget}, '-': {0, 1, api.ErrUnused},
	}
	for pc, in := range whole().Funcs[0].Code {
		form := prog.Form(in.Op)
		for i := range 4 {
			if form[i] == 'a' || form[i] == 'f' || form[i] == 'n' {
				continue // TestCheckAtomic, TestCheckParameters, TestCheckAnyNumber
			}
			r := rules[form[i]]
			for _, x := range append([]int{0, r.behind - 1, r.behind, r.behind + 1}, far...) {
				p := whole()
				put(&p.Funcs[0].Code[pc], i, x)
				if x >= r.least && x < r.behind {
					told(t, form, p, api.OK, 0, 0)
				} else {
					told(t, form, p, r.e, 0, pc)
				}
			}
		}
	}
}

// put sets one of an instruction's A, B, C, N.
func put(in *api.Instr, i, x int) {
	switch i {
	case 0:
		in.A = x
	case 1:
		in.B = x
	case 2:
		in.C = x
	case 3:
		in.N = int64(x)
	}
}

// 3.1: an atomic variable is one, and one that is atomic.
func TestCheckAtomic(t *testing.T) {
	for _, op := range []api.Op{api.OpBump, api.OpCas, api.OpAwait} {
		for _, x := range append([]int{0, 1, 2, 3}, far...) {
			p := whole()
			in := &p.Funcs[0].Code[at(op)]
			if op == api.OpAwait {
				in.A = x
			} else {
				in.B = x
			}
			switch x {
			case 0, 2:
				told(t, "plain", p, api.ErrKind, 0, at(op))
			case 1:
				told(t, "atomic", p, api.OK, 0, 0)
			default:
				told(t, "none", p, api.ErrObj, 0, at(op))
			}
		}
	}
}

// 3.1: n is any number, and so is a variable's Init.
func TestCheckAnyNumber(t *testing.T) {
	for _, x := range append([]int{0, 1, 1000}, far...) {
		p := whole()
		for _, op := range []api.Op{api.OpConst, api.OpAssert, api.OpNote} {
			p.Funcs[0].Code[at(op)].N = int64(x)
		}
		p.Vars[0].Init = int64(x)
		told(t, "any number", p, api.OK, 0, 0)
	}
}

// 3.1: a spawn's function, and the registers of its parameters.
func TestCheckParameters(t *testing.T) {
	const regs = 5
	pc := at(api.OpSpawn)
	with := func(f, k, first int) api.Prog {
		p := whole()
		p.Funcs[0].Code[pc].B, p.Funcs[0].Code[pc].C = f, first
		if f == 1 {
			p.Funcs[f].Regs, p.Funcs[f].Params = 8, k
		}
		return p
	}
	for _, f := range append([]int{3, 4}, far...) {
		told(t, "no such function", with(f, 0, 0), api.ErrObj, 0, pc)
		told(t, "and no such register", with(f, 0, 99), api.ErrObj, 0, pc)
	}
	for _, f := range []int{0, 2} {
		told(t, "no parameters", with(f, 0, 0), api.OK, 0, 0)
	}
	for k := range 9 {
		for _, first := range append([]int{0, 1, 2, 3, 4, 5, 6}, far...) {
			if k == 0 && first == 0 || k > 0 && first >= 0 && first <= regs-k {
				told(t, "parameters", with(1, k, first), api.OK, 0, 0)
			} else {
				told(t, "parameters", with(1, k, first), api.ErrReg, 0, pc)
			}
		}
	}
}

// 3.1: what a function further on has too many, or too few, of is not told ahead of it.
func TestCheckParametersFurtherOn(t *testing.T) {
	pc := at(api.OpSpawn)
	for _, c := range []struct {
		k, first int
		here     bool
	}{
		{-1, 0, false}, {-1, 6, false}, {-1, 7, true}, {-1, -1, true}, {-1, math.MinInt, true}, {-1, math.MaxInt, true},
		{math.MinInt, 0, false}, {math.MinInt, math.MaxInt, false}, {math.MinInt, -1, true},
		{9, 0, true}, {math.MaxInt, 0, true}, {math.MaxInt, 5, true}, {math.MaxInt, math.MaxInt, true}, {math.MaxInt, math.MinInt, true},
	} {
		p := whole()
		p.Funcs[1].Params = c.k
		p.Funcs[0].Code[pc].C = c.first
		if c.here {
			told(t, "here", p, api.ErrReg, 0, pc)
		} else {
			told(t, "further on", p, api.ErrFunc, 1, 0)
		}
	}
}

// 3.1: no other operation stands in a program.
func TestCheckOps(t *testing.T) {
	ops := []int{0, 37, 38, 39, 46, 47, 48, 49, int(api.OpTaken), 67, 100}
	for _, op := range append(ops, far...) {
		p := whole()
		p.Funcs[0].Code[3] = api.Instr{Op: api.Op(op), A: 99}
		told(t, "op", p, api.ErrOp, 0, 3)
	}
}

// 3.1: a code ends with a jump, an end or a select.
func TestCheckFall(t *testing.T) {
	for _, in := range whole().Funcs[0].Code {
		p := whole()
		p.Funcs[0].Code = append(p.Funcs[0].Code, in)
		switch in.Op {
		case api.OpJump, api.OpEnd, api.OpSelect:
			told(t, "an end", p, api.OK, 0, 0)
		default:
			told(t, "no end", p, api.ErrFall, 0, last+1)
		}
	}
	p := whole()
	p.Funcs[1].Code = []api.Instr{end(), yield()}
	told(t, "a function further on", p, api.ErrFall, 1, 1)
}

// 3.1: of several things that are wrong the first one is told: each line here breaks one more thing, ahead of
// those that the lines above it broke.
func TestCheckOrder(t *testing.T) {
	p := whole()
	main, next := &p.Funcs[0], &p.Funcs[1]
	for _, c := range []struct {
		e     api.Errno
		f, pc int
		wrong func()
	}{
		{api.ErrFall, 2, 0, func() { p.Funcs[2].Code[0] = yield() }},
		{api.ErrFall, 1, 1, func() { next.Code[1] = yield() }},
		{api.ErrUnused, 1, 0, func() { next.Code[0].B = 1 }},
		{api.ErrFunc, 1, 0, func() { next.Params = -1 }},
		{api.ErrFall, 0, last + 1, func() { main.Code = append(main.Code, yield()) }},
		{api.ErrTarget, 0, last, func() { main.Code[last] = api.Instr{Op: api.OpIf, A: 1, B: 99} }},
		{api.ErrReg, 0, last, func() { main.Code[last].A = 99 }},
		{api.ErrUnused, 0, last, func() { main.Code[last].N = 1 }},
		{api.ErrOp, 0, last, func() { main.Code[last].Op = 0 }},
		{api.ErrReg, 0, 10, func() { main.Code[10].N = 5 }},
		{api.ErrReg, 0, 10, func() { main.Code[10].C = 5 }},
		{api.ErrKind, 0, 10, func() { main.Code[10].B = 2 }},
		{api.ErrReg, 0, 10, func() { main.Code[10].A = 5 }},
		{api.ErrOp, 0, 0, func() { main.Code[0].Op = 99 }},
		{api.ErrTarget, 0, 0, func() { main.Selects[2].Cases[0].To = -1 }},
		{api.ErrTarget, 0, 0, func() { main.Selects[1].Else = -2 }},
		{api.ErrKind, 0, 0, func() { main.Selects[1].Cases[1] = api.Case{Send: true, To: 99} }},
		{api.ErrReg, 0, 0, func() { main.Selects[1].Cases[1].Reg = 5 }},
		{api.ErrObj, 0, 0, func() { main.Selects[1].Cases[1].Chan = 5 }},
		{api.ErrTarget, 0, 0, func() { main.Selects[0].Cases[0].To = 99 }},
		{api.ErrFunc, 0, 0, func() { main.Selects[2].Cases = nil }},
		{api.ErrCap, 0, 0, func() { p.Chans[2] = 5 }},
		{api.ErrSize, 0, 0, func() { p.Locks = 5 }},
	} {
		c.wrong()
		told(t, "the first", p, c.e, c.f, c.pc)
	}
}

// 3.6: samples are right; an instruction that is changed is right, or told where it stands.
func TestCheckTellsWhere(t *testing.T) {
	wrong := 0
	for seed := range uint64(40) {
		p := sample.Prog(seed)
		told(t, "sample", p, api.OK, 0, 0)
		for f, fn := range p.Funcs {
			for pc := range fn.Code {
				leaves(reflect.ValueOf(&fn.Code[pc]).Elem(), "", func(name string, v reflect.Value) {
					back := change(v)
					e, spot := prog.Check(p)
					if e != api.OK && spot != (api.Spot{Func: f, PC: pc}) {
						t.Errorf("seed %d: %v at %v, not at {%d %d}", seed, e, spot, f, pc)
					}
					if e != api.OK {
						wrong++
					}
					back()
				})
			}
		}
	}
	if wrong == 0 {
		t.Error("nothing was wrong")
	}
}
