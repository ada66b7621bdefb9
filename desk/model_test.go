package desk_test

import (
	"fmt"
	"slices"
	"strings"
	"testing"

	"scarab/api"
	"scarab/asm"
	"scarab/bound"
	"scarab/canon"
	"scarab/code"
	"scarab/desk"
	"scarab/dpor"
	"scarab/flow"
	"scarab/goodlock"
	"scarab/graph"
	"scarab/linear"
	"scarab/order"
	"scarab/pct"
	"scarab/persist"
	"scarab/prog"
	"scarab/race"
	"scarab/sample"
	"scarab/sched"
	"scarab/shrink"
	"scarab/sleep"
	"scarab/source"
	"scarab/state"
	"scarab/step"
	"scarab/tree"
	"scarab/verdict"
	"scarab/witness"
)

// line puts what is told together: one blank between all parts.
func line(parts ...any) string {
	var l []string
	for _, x := range parts {
		switch x := x.(type) {
		case []string:
			l = append(l, x...)
		case []int:
			for _, n := range x {
				l = append(l, fmt.Sprint(n))
			}
		case []api.Pick:
			for _, n := range x {
				l = append(l, fmt.Sprintf("%d.%d", n.Go, n.Alt))
			}
		case []api.Found:
			for _, f := range x {
				text, _ := verdict.Text(f)
				l = append(l, fmt.Sprintf("%q", text))
			}
		default:
			l = append(l, fmt.Sprint(x))
		}
	}
	return strings.Join(l, " ")
}

// whole is the word for whether all was seen.
func whole(is bool) string {
	if is {
		return "complete"
	}
	return "open"
}

// explore are the runs of a mode.
func explore(mode int, p api.Prog, b api.Budget) api.Runs {
	all := map[int]func(api.Prog, api.Budget) (api.Runs, api.Errno){1: tree.All, 2: sleep.All, 3: persist.All, 4: dpor.All}[mode]
	runs, _ := all(p, b)
	return runs
}

// result is what Check is to say of a program, by the chapter's words.
func result(t *testing.T, mode int, p api.Prog, b api.Budget) api.Result {
	t.Helper()
	runs := explore(mode, p, b)
	want := api.Result{Verdict: api.Exceeded}
	if runs.Complete {
		want.Verdict = api.Complete
	}
	for _, r := range runs.All {
		if !r.Repeat {
			want.Runs++
		}
	}
	l, e := verdict.Report(p, runs.All, b)
	if e != api.OK {
		t.Fatal(e)
	}
	if want.Findings, e = shrink.All(p, l[:min(len(l), 4096)], b); e != api.OK {
		t.Fatal(e)
	}
	return want
}

// ofProgram are commands without picks, each with the line that it is to tell of a task.
func ofProgram(t *testing.T, x task) [][2]string {
	t.Helper()
	var idle []string
	spots, _ := flow.Idle(x.p)
	for _, s := range spots {
		idle = append(idle, fmt.Sprintf("f%d:%d", s.Func, s.PC))
	}
	text, _ := asm.Print(x.p)
	sum, _ := code.Sum(x.p)
	longest, _ := flow.Longest(x.p, len(x.p.Funcs)-1, 0)
	start, _ := state.Start(x.p, x.b.Fuel)
	robin, _ := sched.Robin(x.p, x.b)
	chosen, _ := sched.Choose(x.p, []int{3, 0, 7, 999999999, 5}, x.b)
	keys, seen, _ := tree.Classes(x.p, x.b)
	const most = 40
	g, _ := graph.Of(x.p, x.b.Fuel, most)
	stuck, _, _ := graph.Stuck(x.p, x.b.Fuel, most)
	rings, _, _ := graph.Rings(x.p, x.b.Fuel, most)
	paths, is, _ := graph.Paths(x.p, x.b.Fuel, most)
	many := fmt.Sprint(paths)
	if !is {
		many = "none"
	}
	few, _ := bound.All(x.p, 1, x.b)
	swept, _ := pct.Sweep(x.p, 2, 1, x.b)
	return [][2]string{
		{"text", fmt.Sprintf("%q", text)},
		{"code", fmt.Sprintf("code %x", encoded(t, x.p))},
		{"sum", line("sum", sum)},
		{"idle", line("idle", idle)},
		{line("longest", len(x.p.Funcs)-1, 0), line("longest", longest)},
		{"start", line("state", state.Text(start))},
		{"robin", line("picks", robin)},
		{"choose 3 0 7 999999999 5", line("picks", chosen)},
		{"classes", line("classes", len(keys), whole(seen))},
		{line("graph", most), line("graph", len(g.States), len(slices.Concat(g.Edges...)), len(stuck), len(rings), whole(g.Complete))},
		{line("paths", most), line("paths", many)},
		{"bound 1", line("bound", len(few.All), whole(few.Complete))},
		{"sweep 2 1", line("sweep", len(swept.All), whole(swept.Complete))},
	}
}

// failed is the line of an error; of one that is none it is what else is told.
func failed(e api.Errno, fine string, place ...int) string {
	if e == api.OK {
		return fine
	}
	return line("error", int(e), place)
}

// ofPicks are commands with picks, each with the line that it is to tell of a task.
func ofPicks(x task, picks []api.Pick) [][2]string {
	r, e, at := sched.Run(x.p, picks, x.b)
	ran := line("run")
	for _, event := range r.Events {
		ran = line(ran, fmt.Sprintf("%d.%d.%d", event.Go, event.Op, event.Val))
	}
	if r.Cut {
		ran = line(ran, "cut")
	}
	ready, _ := step.Ready(x.p, r.End)
	var edges, rings []string
	pairs, _ := order.Edges(r.Events)
	for _, pair := range pairs {
		edges = append(edges, fmt.Sprintf("%d-%d", pair[0], pair[1]))
	}
	locks, _ := goodlock.Rings(r.Events)
	for _, l := range locks {
		rings = append(rings, strings.ReplaceAll(strings.Trim(fmt.Sprint(l), "[]"), " ", "-"))
	}
	form, _ := canon.Form(r.Events)
	races, _ := race.Races(x.p, r.Events)
	set, _ := persist.Set(x.p, r.End)
	shows, f := verdict.Of(x.p, picks, x.b)
	changes, g := pct.Guide(x.p, picks, x.b)
	gos, seen, h := source.Least(x.p, picks, x.b)
	return [][2]string{
		{line("run", picks), failed(e, ran, at)},
		{line("end", picks), failed(e, line("end", state.Text(r.End)), at)},
		{line("ready", picks), failed(e, line("ready", ready), at)},
		{line("order", picks), failed(e, line("order", edges), at)},
		{line("form", picks), failed(e, line("form", form), at)},
		{line("race", picks), failed(e, line("race", races), at)},
		{line("locks", picks), failed(e, line("locks", rings), at)},
		{line("persist", picks), failed(e, line("persist", set), at)},
		{line("shows", picks), failed(f, line("shows", shows))},
		{line("guide", picks), failed(g, line("guide", changes))},
		{line("source", picks), failed(h, line("source", gos, whole(seen)))},
		{line("linear queue", picks), told(api.KindQueue, r, e)},
		{line("linear register", picks), told(api.KindRegister, r, e)},
	}
}

// told is what linear is to tell of a run.
func told(kind int, r api.Trace, e api.Errno) string {
	h, f := linear.Noted(r.Events)
	way, is, g := linear.Linear(kind, h)
	for _, e := range []api.Errno{e, f, g} {
		if e != api.OK {
			return failed(e, "")
		}
	}
	if !is {
		return "not"
	}
	return line("linear", way)
}

// ofModes are commands with modes, each with the line that it is to tell of a task.
func ofModes(t *testing.T, x task) [][2]string {
	t.Helper()
	var l [][2]string
	for mode, word := range modes {
		runs := explore(mode, x.p, x.b)
		cut := len(slices.DeleteFunc(slices.Clone(runs.All), func(r api.Run) bool { return !r.Cut }))
		report, _ := verdict.Report(x.p, runs.All, x.b)
		want := result(t, mode, x.p, x.b)
		short := "shrink"
		for _, f := range want.Findings {
			short = line(short, []api.Found{f.Found}, len(f.Picks))
		}
		sight := "open"
		if want.Verdict == api.Complete {
			sight = "right"
		}
		l = append(l, [2]string{"all " + word, line("all", len(runs.All), len(runs.All)-want.Runs, cut, whole(runs.Complete))},
			[2]string{"report " + word, line("report", found(report))},
			[2]string{"shrink " + word, short},
			[2]string{"check " + word, line("check", sight, want.Runs, len(want.Findings))},
			[2]string{line("witness", word, len(want.Findings)), "error 9"})
		for n, f := range want.Findings {
			if n > 0 && n < len(want.Findings)-1 {
				continue
			}
			w, _ := witness.Make(x.p, f, x.b)
			b, _ := witness.Write(w)
			l = append(l, [2]string{line("witness", word, n), fmt.Sprintf("witness %x", b)}, [2]string{fmt.Sprintf("replay %x", b), line("replay", len(f.Picks))})
		}
	}
	return l
}

// 28.2: by the chapter's words, of sampled programs.
func TestModel(t *testing.T) {
	seen := map[string]int{}
	for i, x := range tasks(t, 60) {
		all, visible, _ := prog.Count(x.p)
		text, _ := asm.Print(x.p)
		pairs := slices.Concat(ofProgram(t, x), ofModes(t, x), ofPicks(x, x.picks), ofPicks(x, nil), ofPicks(x, append(slices.Clone(x.picks), api.Pick{Go: i % 6, Alt: i % 2})))
		script := line("budget", x.b.Steps, x.b.Fuel, x.b.Runs) + "\n" + laid(text)
		want := []string{"ok", line("program", all, visible)}
		for _, pair := range pairs {
			script += pair[0] + "\n"
			want = append(want, pair[1])
			word, _, _ := strings.Cut(pair[0], " ")
			says, _, _ := strings.Cut(pair[1], " ")
			seen[word+" "+says]++
		}
		got := strings.Split(strings.TrimSuffix(run(t, script), "\n"), "\n")
		for k := range want {
			if k >= len(got) || got[k] != want[k] {
				t.Fatalf("%d: %s: %q, not %q", i, pairs[max(k-2, 0)][0], got[k:], want[k])
			}
		}
		if len(got) != len(want) {
			t.Errorf("%d: more is told: %q", i, got[len(want):])
		}
	}
	for _, word := range []string{"run", "end", "ready", "order", "form", "race", "locks", "persist", "shows", "guide", "source", "linear"} {
		if seen[word+" "+word] < 20 || seen[word+" error"] < 10 {
			t.Errorf("told %v", seen)
		}
	}
	if seen["linear not"]+seen["replay replay"] < 50 {
		t.Errorf("told %v", seen)
	}
}

// 28.1: Check and Seen, by the chapter's words, of sampled programs.
func TestCheckModel(t *testing.T) {
	verdicts, repeats, some := map[int]int{}, 0, 0
	for i, x := range tasks(t, 120) {
		for mode := range modes {
			runs, e := desk.Seen(x.p, mode, x.b)
			all := explore(mode, x.p, x.b)
			if e != api.OK || runs.Complete != all.Complete || !slices.EqualFunc(runs.All, all.All, sameRun) {
				t.Errorf("%d: mode %d: %v %v, not %v", i, mode, runs, e, all)
			}
			want, r := result(t, mode, x.p, x.b), checked(t, x.p, mode, x.b)
			if r.Verdict != want.Verdict || r.Code != api.OK || r.Runs != want.Runs || !slices.EqualFunc(r.Findings, want.Findings, same) {
				t.Errorf("%d: mode %d: %v, not %v", i, mode, r, want)
			}
			verdicts[r.Verdict]++
			some += len(r.Findings)
			repeats += len(all.All) - r.Runs
		}
	}
	if verdicts[api.Complete] < 100 || verdicts[api.Exceeded] < 100 || some < 500 || repeats < 10 {
		t.Errorf("told %v, %d findings, %d repeats", verdicts, some, repeats)
	}
}

// sameRun tells whether two runs are the same.
func sameRun(a, b api.Run) bool {
	return a.Cut == b.Cut && a.Repeat == b.Repeat && slices.Equal(a.Picks, b.Picks)
}

// 28.6, P11: scripts of any commands tell the same each time, whatever notes stand among them.
func TestSameEachTime(t *testing.T) {
	for i, x := range tasks(t, 80) {
		text, _ := asm.Print(x.p)
		script := line("budget", x.b.Steps, x.b.Fuel, x.b.Runs) + "\n" + laid(text)
		noted := "# a note\n\n" + script
		for k, n := range sample.Choices(uint64(i), 12) {
			shape := shapes[1+n&0xffff%(len(shapes)-1)]
			command := shape.word
			for _, kind := range []byte(strings.TrimSuffix(shape.kinds, "*")) {
				right, _ := of(kind)
				command += " " + right[(n>>16&0xff)%len(right)]
			}
			script += command + "\n"
			noted += strings.Repeat("# x\n\n", k%3) + command + "\n"
		}
		want := run(t, script)
		if got := run(t, script); got != want {
			t.Errorf("%d: %q, then %q", i, want, got)
		}
		if got := run(t, noted+"\n#\n#"); got != want {
			t.Errorf("%d: %q, with notes %q", i, want, got)
		}
	}
}
