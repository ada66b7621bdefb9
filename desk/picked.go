package desk

import (
	"scarab/api"
	"scarab/canon"
	"scarab/goodlock"
	"scarab/linear"
	"scarab/order"
	"scarab/pct"
	"scarab/persist"
	"scarab/race"
	"scarab/sched"
	"scarab/source"
	"scarab/state"
	"scarab/step"
	"scarab/verdict"
)

// trace is that of picks; the command gives up with the place of the first one that can not be taken.
func (d *desk) trace(a args) api.Trace { return mustAt(sched.Run(d.prog, a.picks, d.budget)) }

func (d *desk) run(a args) []string {
	t := d.trace(a)
	told := listed("run", t.Events, eventText)
	if t.Cut {
		told = append(told, "cut")
	}
	return told
}

func (d *desk) end(a args) []string { return []string{"end", state.Text(d.trace(a).End)} }

func (d *desk) ready(a args) []string {
	return listed("ready", must(step.Ready(d.prog, d.trace(a).End)), pickText)
}

func (d *desk) choose(a args) []string {
	return listed("picks", must(sched.Choose(d.prog, a.numbers, d.budget)), pickText)
}

func (d *desk) robin(args) []string {
	return listed("picks", must(sched.Robin(d.prog, d.budget)), pickText)
}

func (d *desk) order(a args) []string {
	return listed("order", must(order.Edges(d.trace(a).Events)), edgeText)
}

func (d *desk) form(a args) []string {
	return numbered("form", must(canon.Form(d.trace(a).Events))...)
}

func (d *desk) race(a args) []string {
	return listed("race", must(race.Races(d.prog, d.trace(a).Events)), foundText)
}

func (d *desk) shows(a args) []string {
	return listed("shows", must(verdict.Of(d.prog, a.picks, d.budget)), foundText)
}

func (d *desk) locks(a args) []string {
	return listed("locks", must(goodlock.Rings(d.trace(a).Events)), ringText)
}

func (d *desk) guide(a args) []string {
	return numbered("guide", must(pct.Guide(d.prog, a.picks, d.budget))...)
}

func (d *desk) source(a args) []string {
	gos, complete := mustBoth(source.Least(d.prog, a.picks, d.budget))
	return append(numbered("source", gos...), whole(complete))
}

func (d *desk) persist(a args) []string {
	return numbered("persist", must(persist.Set(d.prog, d.trace(a).End))...)
}

func (d *desk) linear(a args) []string {
	// no place is told here.
	t, e, _ := sched.Run(d.prog, a.picks, d.budget)
	giveUp(e)
	way, is := mustBoth(linear.Linear(a.kind, must(linear.Noted(t.Events))))
	if !is {
		return []string{"not"}
	}
	return numbered("linear", way...)
}
