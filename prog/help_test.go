package prog_test

import (
	"fmt"
	"math"
	"reflect"

	"scarab/api"
)

// Numbers at which something could go round.
var far = []int{math.MinInt, math.MinInt + 1, -2, -1, 1 << 31, 1 << 32, math.MaxInt - 1, math.MaxInt}

// one is a program of one function.
func one(regs int, code ...api.Instr) api.Prog {
	return api.Prog{Funcs: []api.Func{{Regs: regs, Code: code}}}
}

func end() api.Instr   { return api.Instr{Op: api.OpEnd} }
func yield() api.Instr { return api.Instr{Op: api.OpYield} }

// whole is a right program that has some of everything, with something ahead and behind wherever that may be. Its
// main function ends with an end, whose place is last.
func whole() api.Prog {
	main := api.Func{Regs: 5, Code: []api.Instr{
		{Op: api.OpNeg, A: 1, B: 2},
		{Op: api.OpAdd, A: 1, B: 2, C: 3},
		{Op: api.OpConst, A: 1, N: -7},
		{Op: api.OpMove, A: 1, B: 2},
		{Op: api.OpJump, A: 5},
		{Op: api.OpIf, A: 1, B: 7},
		{Op: api.OpAssert, A: 1, N: 9},
		{Op: api.OpLoad, A: 1, B: 1},
		{Op: api.OpStore, A: 1, B: 2},
		{Op: api.OpBump, A: 1, B: 1, C: 2},
		{Op: api.OpCas, A: 1, B: 1, C: 2, N: 3},
		{Op: api.OpAwait, A: 1, B: 2},
		{Op: api.OpLock, A: 1},
		{Op: api.OpUnlock, A: 1},
		{Op: api.OpTry, A: 1, B: 1},
		{Op: api.OpSend, A: 1, B: 2},
		{Op: api.OpRecv, A: 1, B: 1, C: 2},
		{Op: api.OpClose, A: 1},
		{Op: api.OpSelect, A: 1},
		{Op: api.OpSpawn, A: 1, B: 1, C: 2},
		{Op: api.OpJoin, A: 1},
		{Op: api.OpYield},
		{Op: api.OpNote, A: 1, N: 9},
		{Op: api.OpEnd},
	}, Selects: []api.Select{
		{Cases: []api.Case{{Chan: 0, Reg: -1, To: 3}}, Else: -1},
		{Cases: []api.Case{{Chan: 1, Reg: 1, To: 2}, {Send: true, Chan: 1, Reg: 2, To: 1}, {Chan: 2, Reg: 3}}, Else: 4},
		{Cases: []api.Case{{Send: true, Chan: 1, Reg: 0, To: 3}}, Else: 0},
	}}
	return api.Prog{
		Vars:  []api.Var{{Init: 3}, {Atomic: true, Init: -4}, {Init: 5}},
		Locks: 3,
		Chans: []int{0, 2, 4},
		Funcs: []api.Func{main, {Params: 2, Regs: 3, Code: []api.Instr{yield(), end()}}, {Code: []api.Instr{end()}}},
	}
}

const last = 23 // the place of whole's last instruction

// at is the place of an operation in whole's main function.
func at(op api.Op) int {
	for pc, in := range whole().Funcs[0].Code {
		if in.Op == op {
			return pc
		}
	}
	return -1
}

// leaves hands out each number and each bool of v, one after the other, and each list; v is one that may be set.
func leaves(v reflect.Value, name string, tell func(name string, v reflect.Value)) {
	switch v.Kind() {
	case reflect.Struct:
		for i := range v.NumField() {
			leaves(v.Field(i), name+"."+v.Type().Field(i).Name, tell)
		}
	case reflect.Slice:
		tell(name, v)
		for i := range v.Len() {
			leaves(v.Index(i), fmt.Sprintf("%s[%d]", name, i), tell)
		}
	default:
		tell(name, v)
	}
}

// change makes a leaf another one, and what it answers makes it again what it was.
func change(v reflect.Value) func() {
	was := reflect.New(v.Type()).Elem()
	was.Set(v)
	switch v.Kind() {
	case reflect.Bool:
		v.SetBool(!v.Bool())
	case reflect.Slice:
		grown := reflect.MakeSlice(v.Type(), v.Len()+1, v.Len()+1)
		reflect.Copy(grown, v)
		v.Set(grown)
	default:
		v.SetInt(v.Int() + 1)
	}
	return func() { v.Set(was) }
}
