package code

import (
	"scarab/api"
	"scarab/octet"
	"scarab/prog"
)

// span is where an instruction stands in bytes.
type span struct {
	of           api.Spot
	from, behind int
}

// writer writes a right program down, and keeps where its instructions stand.
type writer struct {
	out   []byte
	spans []span
	next  api.Spot // of the instruction that comes next
}

// each writes how many things there are, and then each of them.
func each[T any](w *writer, things []T, write func(T)) {
	w.number(len(things))
	for _, x := range things {
		write(x)
	}
}

func (w *writer) program(p api.Prog) {
	w.out = append(w.out, magic...)
	each(w, p.Vars, w.variable)
	w.number(p.Locks)
	each(w, p.Chans, w.number)
	each(w, p.Funcs, w.function)
}

func (w *writer) variable(v api.Var) {
	w.flag(v.Atomic)
	w.signed(v.Init)
}

func (w *writer) function(fn api.Func) {
	w.number(fn.Params)
	w.number(fn.Regs)
	each(w, fn.Selects, w.choice)
	each(w, fn.Code, w.instr)
	w.next = api.Spot{Func: w.next.Func + 1}
}

func (w *writer) choice(s api.Select) {
	each(w, s.Cases, w.branch)
	w.number(s.Else + 1)
}

func (w *writer) branch(c api.Case) {
	w.flag(c.Send)
	w.number(c.Chan)
	w.number(c.Reg + 1)
	w.number(c.To)
}

func (w *writer) instr(in api.Instr) {
	from := len(w.out)
	w.number(int(in.Op))
	form := prog.Form(in.Op)
	for i, x := range [operands]int64{int64(in.A), int64(in.B), int64(in.C), in.N} {
		switch form[i] {
		case '-':
		case 'o':
			w.number(int(x) + 1)
		case 'n':
			w.signed(x)
		default:
			w.number(int(x))
		}
	}
	w.spans = append(w.spans, span{w.next, from, len(w.out)})
	w.next.PC++
}

// number writes a number from 0 on: a right program has no other where no sign stands.
func (w *writer) number(x int) { w.out = append(w.out, octet.Put(nil, uint64(x))...) }

// signed writes a number with a sign.
func (w *writer) signed(x int64) { w.out = append(w.out, octet.PutInt(nil, x)...) }

// flag writes 1 for true, 0 for false.
func (w *writer) flag(set bool) {
	if set {
		w.number(1)
	} else {
		w.number(0)
	}
}
