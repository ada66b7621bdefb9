package desk

import (
	"scarab/api"
	"scarab/asm"
	"scarab/code"
	"scarab/flow"
	"scarab/prog"
	"scarab/state"
)

// lay lays a right program on the desk.
func (d *desk) lay(p api.Prog) []string {
	d.prog, d.laid = p, true
	all, visible, _ := prog.Count(p)
	return numbered("program", all, visible)
}

func (d *desk) program(a args) []string { return d.lay(mustAt(asm.Parse(a.text))) }

func (d *desk) bytes(a args) []string { return d.lay(mustAt(code.Decode(a.bytes))) }

func (d *desk) setBudget(a args) []string {
	u := api.Budget{Steps: a.numbers[0], Fuel: a.numbers[1], Runs: a.numbers[2]}
	if !isBudget(u) {
		giveUp(api.ErrBudget)
	}
	d.budget = u
	return []string{"ok"}
}

func (d *desk) text(args) []string { return []string{Told(must(asm.Print(d.prog)))} }

func (d *desk) code(args) []string { return []string{"code", hexText(must(code.Encode(d.prog)))} }

func (d *desk) sum(args) []string { return numbered("sum", int(must(code.Sum(d.prog)))) }

func (d *desk) idle(args) []string { return listed("idle", must(flow.Idle(d.prog)), placeText) }

func (d *desk) longest(a args) []string {
	return numbered("longest", must(flow.Longest(d.prog, a.numbers[0], a.numbers[1])))
}

func (d *desk) start(args) []string {
	return []string{"state", state.Text(must(state.Start(d.prog, d.budget.Fuel)))}
}
