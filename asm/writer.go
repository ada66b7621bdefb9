package asm

import (
	"strings"

	"scarab/api"
	"scarab/prog"
)

// writer writes a right program down, line by line.
type writer struct {
	out   strings.Builder
	kinds map[string]kind
}

// line writes a line: its first word, and those of its operands.
func (w *writer) line(first string, x ...int64) {
	w.out.WriteString(first)
	letters := w.kinds[first].letters
	for i := range len(letters) {
		w.out.WriteString(" " + spelt(letters[i], x[i]))
	}
	w.out.WriteString("\n")
}

func (w *writer) program(p api.Prog) {
	w.line("scarab")
	for _, v := range p.Vars {
		if v.Atomic {
			w.line("atomic", v.Init)
		} else {
			w.line("var", v.Init)
		}
	}
	for range p.Locks {
		w.line("mutex")
	}
	for _, room := range p.Chans {
		w.line("chan", int64(room))
	}
	for _, fn := range p.Funcs {
		w.function(fn)
	}
}

func (w *writer) function(fn api.Func) {
	w.line("func", int64(fn.Params), int64(fn.Regs))
	for _, s := range fn.Selects {
		w.line("choose", int64(s.Else))
		for _, c := range s.Cases {
			first := "onrecv"
			if c.Send {
				first = "onsend"
			}
			w.line(first, int64(c.Chan), int64(c.Reg), int64(c.To))
		}
	}
	for _, in := range fn.Code {
		w.instr(in)
	}
}

func (w *writer) instr(in api.Instr) {
	form := prog.Form(in.Op)
	var x []int64
	for i, operand := range [4]int64{int64(in.A), int64(in.B), int64(in.C), in.N} {
		if form[i] != '-' {
			x = append(x, operand)
		}
	}
	w.line(name(in.Op), x...)
}
