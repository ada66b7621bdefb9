package desk

import (
	"strconv"

	"scarab/api"
	"scarab/bound"
	"scarab/code"
	"scarab/graph"
	"scarab/pct"
	"scarab/tree"
	"scarab/verdict"
	"scarab/witness"
)

// seen are the runs of the mode that a command names.
func (d *desk) seen(a args) api.Runs { return must(Seen(d.prog, a.mode, d.budget)) }

func (d *desk) all(a args) []string {
	runs := d.seen(a)
	told := numbered("all", len(runs.All), count(runs.All, repeats), count(runs.All, isCut))
	return append(told, whole(runs.Complete))
}

func (d *desk) classes(args) []string {
	keys, complete := mustBoth(tree.Classes(d.prog, d.budget))
	return append(numbered("classes", len(keys)), whole(complete))
}

func (d *desk) graph(a args) []string {
	g := must(graph.Of(d.prog, d.budget.Fuel, a.numbers[0]))
	rings, _ := mustBoth(graph.Rings(d.prog, d.budget.Fuel, a.numbers[0]))
	edges, stuck := 0, 0
	for _, l := range g.Edges {
		edges += len(l)
		if len(l) == 0 {
			stuck++
		}
	}
	return append(numbered("graph", len(g.States), edges, stuck, len(rings)), whole(g.Complete))
}

func (d *desk) paths(a args) []string {
	n, is := mustBoth(graph.Paths(d.prog, d.budget.Fuel, a.numbers[0]))
	if !is {
		return []string{"paths", "none"}
	}
	return numbered("paths", n)
}

func (d *desk) bound(a args) []string {
	return someRuns("bound", must(bound.All(d.prog, a.numbers[0], d.budget)))
}

func (d *desk) sweep(a args) []string {
	return someRuns("sweep", must(pct.Sweep(d.prog, a.numbers[0], a.numbers[1], d.budget)))
}

// someRuns is a word, and how many runs there are behind it.
func someRuns(word string, runs api.Runs) []string {
	return append(numbered(word, len(runs.All)), whole(runs.Complete))
}

func (d *desk) report(a args) []string {
	return listed("report", must(verdict.Report(d.prog, d.seen(a).All, d.budget)), findingText)
}

// short is the short report of the mode that a command names, its schedules made shorter.
func (d *desk) short(a args) []api.Finding { return short(d.prog, d.seen(a).All, d.budget) }

func (d *desk) shrink(a args) []string {
	told := []string{"shrink"}
	for _, f := range d.short(a) {
		told = append(told, findingText(f), strconv.Itoa(len(f.Picks)))
	}
	return told
}

func (d *desk) witness(a args) []string {
	l := d.short(a)
	if a.numbers[0] >= len(l) {
		giveUp(api.ErrNone)
	}
	w := must(witness.Make(d.prog, l[a.numbers[0]], d.budget))
	return []string{"witness", hexText(must(witness.Write(w)))}
}

func (d *desk) replay(a args) []string {
	w := mustAt(witness.Read(a.bytes))
	return numbered("replay", len(must(witness.Replay(d.prog, w)).Events))
}

func (d *desk) check(a args) []string {
	r := must(Check(must(code.Encode(d.prog)), a.mode, d.budget))
	sight := "open"
	if r.Verdict == api.Complete {
		sight = "right"
	}
	return []string{"check", sight, strconv.Itoa(r.Runs), strconv.Itoa(len(r.Findings))}
}
