package asm

import (
	"strings"

	"scarab/api"
	"scarab/prog"
	"scarab/word"
)

// part is what a line is in a program.
type part int

const (
	nothing part = iota // ahead of the first line
	head
	variable
	lock
	channel
	function
	choice
	branch
	instruction
)

// kind is what all lines with the same first word have in common.
type kind struct {
	is      part
	behind  []part                       // what the line right ahead may be
	letters string                       // of the operands, each of which is one word: see sign
	add     func(p *api.Prog, x []int64) // puts what a line says behind all that the program has
}

// names are those of the operations that are none of numbers, each at its number.
var names = [...]string{
	api.OpConst:  "const",
	api.OpMove:   "move",
	api.OpJump:   "jump",
	api.OpIf:     "if",
	api.OpAssert: "assert",
	api.OpEnd:    "end",
	api.OpLoad:   "load",
	api.OpStore:  "store",
	api.OpBump:   "bump",
	api.OpCas:    "cas",
	api.OpAwait:  "await",
	api.OpLock:   "lock",
	api.OpUnlock: "unlock",
	api.OpTry:    "try",
	api.OpSend:   "send",
	api.OpRecv:   "recv",
	api.OpClose:  "close",
	api.OpSelect: "select",
	api.OpSpawn:  "spawn",
	api.OpJoin:   "join",
	api.OpYield:  "yield",
	api.OpNote:   "note",
}

// name is the name of an operation of programs.
func name(op api.Op) string {
	if word.Arity(op) > 0 {
		return word.Name(op)
	}
	return names[op]
}

// kinds are all kinds of lines by their first words.
func kinds() map[string]kind {
	all := map[string]kind{
		"scarab": {head, []part{nothing}, "", func(p *api.Prog, x []int64) {}},
		"var":    {variable, []part{head, variable}, "n", addVar},
		"atomic": {variable, []part{head, variable}, "n", addAtomic},
		"mutex":  {lock, []part{head, variable, lock}, "", func(p *api.Prog, x []int64) { p.Locks++ }},
		"chan":   {channel, []part{head, variable, lock, channel}, "k", addChan},
		"func": {function, []part{head, variable, lock, channel, function, choice, branch, instruction},
			"kk", addFunc},
		// A choose without cases is left to prog.Check: one more choose may stand behind it.
		"choose": {choice, []part{function, choice, branch}, "e", addSelect},
		"onsend": {branch, []part{choice, branch}, "crt", addSend},
		"onrecv": {branch, []part{choice, branch}, "cot", addRecv},
	}
	for op := range api.OpTaken {
		if form := prog.Form(op); form != "" {
			all[name(op)] = kind{instruction, []part{function, choice, branch, instruction},
				strings.ReplaceAll(form, "-", ""), func(p *api.Prog, x []int64) { addInstr(p, op, x) }}
		}
	}
	return all
}

func addVar(p *api.Prog, x []int64) { p.Vars = append(p.Vars, api.Var{Init: x[0]}) }

func addAtomic(p *api.Prog, x []int64) { p.Vars = append(p.Vars, api.Var{Atomic: true, Init: x[0]}) }

func addChan(p *api.Prog, x []int64) { p.Chans = append(p.Chans, int(x[0])) }

func addFunc(p *api.Prog, x []int64) {
	p.Funcs = append(p.Funcs, api.Func{Params: int(x[0]), Regs: int(x[1])})
}

// lastFunc is the last function: the lines of a function stand where there is one.
func lastFunc(p *api.Prog) *api.Func { return &p.Funcs[len(p.Funcs)-1] }

func addSelect(p *api.Prog, x []int64) {
	fn := lastFunc(p)
	fn.Selects = append(fn.Selects, api.Select{Else: int(x[0])})
}

func addSend(p *api.Prog, x []int64) { addCase(p, true, x) }

func addRecv(p *api.Prog, x []int64) { addCase(p, false, x) }

// addCase puts a case behind those of the last select: cases stand where there is one.
func addCase(p *api.Prog, send bool, x []int64) {
	fn := lastFunc(p)
	s := &fn.Selects[len(fn.Selects)-1]
	s.Cases = append(s.Cases, api.Case{Send: send, Chan: int(x[0]), Reg: int(x[1]), To: int(x[2])})
}

// addInstr puts an instruction behind those of the last function. x has no operand for the letter -.
func addInstr(p *api.Prog, op api.Op, x []int64) {
	form := prog.Form(op)
	var all [4]int64
	for i := range all {
		if form[i] != '-' {
			all[i], x = x[0], x[1:]
		}
	}
	fn := lastFunc(p)
	fn.Code = append(fn.Code, api.Instr{Op: op, A: int(all[0]), B: int(all[1]), C: int(all[2]), N: all[3]})
}
