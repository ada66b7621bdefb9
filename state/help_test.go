package state_test

import (
	"math"
	"reflect"
	"testing"

	"scarab/api"
	"scarab/prog"
	"scarab/sample"
	"scarab/state"
	"scarab/word"
)

// one is a program of one function.
func one(regs int, code ...api.Instr) api.Prog {
	return api.Prog{Funcs: []api.Func{{Regs: regs, Code: code}}}
}

// end is an end, yield a yield, number a const.
func end() api.Instr                       { return api.Instr{Op: api.OpEnd} }
func yield() api.Instr                     { return api.Instr{Op: api.OpYield} }
func number(r int, n int64) api.Instr      { return api.Instr{Op: api.OpConst, A: r, N: n} }
func binary(op api.Op, b, c int) api.Instr { return api.Instr{Op: op, A: 0, B: b, C: c} }

// far are numbers that are out of most ranges.
var far = []int{math.MinInt, math.MinInt32, -2, -1, 4097, 1 << 32, math.MaxInt - 1, math.MaxInt}

// busy is a program with some of everything, and not as much as there may be: each place of its functions says at which
// instruction a goroutine stands.
func busy() api.Prog {
	return api.Prog{
		Vars:  []api.Var{{Init: 5}, {Atomic: true, Init: -7}, {Init: math.MinInt64}},
		Locks: 2,
		Chans: []int{0, 2, 0},
		Funcs: []api.Func{
			{Regs: 3, Code: []api.Instr{
				number(0, 5), {Op: api.OpAssert}, binary(api.OpDiv, 1, 2), binary(api.OpRem, 1, 2), binary(api.OpShl, 1, 2),
				binary(api.OpShr, 1, 2), binary(api.OpUshr, 1, 2), {Op: api.OpSend, A: 0}, {Op: api.OpSend, A: 1}, {Op: api.OpSend, A: 2},
				{Op: api.OpSelect}, {Op: api.OpClose}, {Op: api.OpUnlock}, {Op: api.OpJoin}, {Op: api.OpSpawn, A: -1, B: 1},
				yield(), {Op: api.OpRecv, A: -1, B: 0, C: -1}, {Op: api.OpJump, A: 18}, end(),
			}, Selects: []api.Select{{Cases: []api.Case{{Chan: 1, Send: true, To: 18}}, Else: -1}}},
			{Regs: 1, Params: 1, Code: []api.Instr{{Op: api.OpSend, A: 2}, {Op: api.OpStore}, end()}},
		},
	}
}

// Places of busy's function 0.
const (
	atConst = iota
	atAssert
	atDiv
	atRem
	atShl
	atShr
	atUshr
	atSend0
	atSend1
	atSend2
	atSelect
	atClose
	atUnlock
	atJoin
	atSpawn
	atYield
	atRecv
	atJump
	atEnd
	places
)

// crowd is a state of busy in which goroutines are in all ways in which they may be, with an offer of each kind but one.
func crowd() api.State {
	s := api.State{Vars: [8]int64{1, 2, 3}, Owner: [4]int{6, 1}, Count: 6}
	s.Gos = [6]api.Go{
		{Status: api.GoLive, PC: atYield, Regs: [8]int64{1, 2, 3}},
		{Status: api.GoWait, PC: atSend0, Regs: [8]int64{4, 5, 6}},
		{Status: api.GoDone, PC: atEnd},
		{Status: api.GoFailed, PC: atJoin, Why: api.WhyJoin},
		{Status: api.GoSpun, PC: atJump, Regs: [8]int64{0, 0, 9}},
		{Status: api.GoWait, Func: 1, Regs: [8]int64{7}},
	}
	s.Chans[0] = api.Chan{Offer: api.OfferThere, From: 1, Val: 4}
	s.Chans[1] = api.Chan{Buf: [4]int64{8, 0}, Len: 2, Closed: true}
	s.Chans[2] = api.Chan{Offer: api.OfferLost, From: 5, Closed: true}
	return s
}

// ran is a goroutine behind its local instructions, told by the chapter's words one by one.
func ran(code []api.Instr, it api.Go, fuel int) api.Go {
	dead := func(status, why int) api.Go {
		it.Status, it.Why, it.Regs = status, why, [8]int64{}
		return it
	}
	for {
		in := code[it.PC]
		if !prog.Local(in.Op) {
			return it
		}
		if fuel == 0 {
			it.Status = api.GoSpun
			return it
		}
		fuel--
		next := it.PC + 1
		a, b := it.Regs[max(in.B, 0)%8], it.Regs[max(in.C, 0)%8]
		x, e := word.Apply(in.Op, a, b)
		switch {
		case in.Op == api.OpEnd:
			return dead(api.GoDone, 0)
		case in.Op == api.OpJump:
			next = in.A
		case in.Op == api.OpIf && it.Regs[in.A] != 0:
			next = in.B
		case in.Op == api.OpAssert && it.Regs[in.A] == 0:
			return dead(api.GoFailed, api.WhyAssert)
		case in.Op == api.OpConst:
			it.Regs[in.A] = in.N
		case in.Op == api.OpMove:
			it.Regs[in.A] = a
		case e == api.ErrDivide:
			return dead(api.GoFailed, api.WhyZero)
		case e == api.ErrShift:
			return dead(api.GoFailed, api.WhyShift)
		case e == api.OK:
			it.Regs[in.A] = x
		}
		it.PC = next
	}
}

// leaves calls a function with each number and each bool of a state.
func leaves(s *api.State, each func(v reflect.Value)) {
	var walk func(v reflect.Value)
	walk = func(v reflect.Value) {
		switch v.Kind() {
		case reflect.Struct:
			for i := range v.NumField() {
				walk(v.Field(i))
			}
		case reflect.Array:
			for i := range v.Len() {
				walk(v.Index(i))
			}
		default:
			each(v)
		}
	}
	walk(reflect.ValueOf(s).Elem())
}

// locals are programs whose goroutines have many local instructions to run.
func locals() []api.Prog {
	var l []api.Prog
	for seed := range uint64(60) {
		p := sample.Prog(seed)
		for f := range p.Funcs {
			for pc, in := range p.Funcs[f].Code {
				if prog.Visible(in.Op) && in.Op != api.OpSelect && (pc+f)%3 > 0 && p.Funcs[f].Regs > 0 {
					p.Funcs[f].Code[pc] = number(pc%p.Funcs[f].Regs, int64(pc%4)-1)
				}
			}
		}
		l = append(l, p, sample.Small(seed))
	}
	return l
}

// wrongs are programs that are not right.
func wrongs() []api.Prog {
	falls, lost := busy(), busy()
	falls.Funcs[1].Code = falls.Funcs[1].Code[:2]
	lost.Vars = nil
	return []api.Prog{{}, one(0, yield()), falls, lost}
}

// valid asks that a state is one of a program, or that it is not.
func valid(t *testing.T, what string, p api.Prog, s api.State, want bool) {
	t.Helper()
	if state.Valid(p, s) != want {
		t.Errorf("%s: not %v: %+v", what, want, s)
	}
}
