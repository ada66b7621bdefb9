package verdict_test

import (
	"slices"
	"testing"

	"scarab/api"
	"scarab/verdict"
)

// finding is something that was found at a place of the function 0, with picks of a goroutine.
func finding(kind, pc int, l ...int) api.Finding {
	return api.Finding{Found: at(kind, 0, pc), Picks: gos(l...)}
}

// merged asks for lists as one.
func merged(t *testing.T, what string, want []api.Finding, l ...[]api.Finding) {
	t.Helper()
	if m := verdict.Merge(l...); !slices.EqualFunc(m, want, same) {
		t.Errorf("%s: %v, not %v", what, m, want)
	}
}

// 23.2: none, one, several lists; in the order of what was found, of the same the first one.
func TestMerge(t *testing.T) {
	a, b, c := finding(1, 0, 1), finding(1, 5, 2), finding(4, 0, 3)
	again, other := finding(1, 5, 4, 4), finding(1, 5)
	type list = []api.Finding
	merged(t, "no list", nil)
	merged(t, "lists of nothing", nil, nil, list{}, nil)
	merged(t, "one", list{a}, list{a})
	merged(t, "out of order", list{a, b, c}, list{c, b, a})
	merged(t, "of two, out of order", list{a, b, c}, list{c}, list{b, a})
	merged(t, "the same, the first list first", list{b}, list{b}, list{again})
	merged(t, "the same, the other list first", list{again}, list{again}, list{b})
	merged(t, "the same in one list", list{again}, list{again, b, other})
	merged(t, "the same, without picks first", list{a, other}, list{other}, nil, list{b, a, again})
	merged(t, "the first list has it last", list{a, again, c}, list{c, a, again}, list{b, c})
	merged(t, "the same picks do not matter", list{a, {Found: b.Found, Picks: a.Picks}}, list{{Found: b.Found, Picks: a.Picks}, a})
}

// 23.2: no list is too long, and any findings may stand there.
func TestMergeOfMuch(t *testing.T) {
	var l, want []api.Finding
	for n := range 100000 {
		l = append(l, api.Finding{Found: at(-7, n%5000, 0), Picks: gos(n)})
	}
	for n := range 5000 {
		want = append(want, api.Finding{Found: at(-7, n, 0), Picks: gos(n)})
	}
	merged(t, "a long list", want, l)
	merged(t, "long lists", want, l[:5000], l[6000:], l)
	long := api.Finding{Found: at(9, 0, 0), Picks: make([]api.Pick, api.MaxSteps+9)}
	merged(t, "long picks", []api.Finding{long}, []api.Finding{long})
	var odd []api.Finding
	for i, f := range things() {
		odd = append(odd, api.Finding{Found: f, Picks: []api.Pick{{Go: far[i%len(far)], Alt: i}}})
	}
	// things() has nothing twice
	kept := cloned(odd)
	slices.SortFunc(kept, func(a, b api.Finding) int { return inOrder(a.Found, b.Found) })
	merged(t, "any", kept, odd)
	merged(t, "any twice", kept, odd, kept)
}

// reports asks for the report of runs of a text's program.
func reports(t *testing.T, what, text string, b api.Budget, l []api.Run, want ...api.Finding) {
	t.Helper()
	r, e := verdict.Report(parsed(t, text), l, b)
	if e != api.OK || !slices.EqualFunc(r, want, same) {
		t.Errorf("%s: %v %v, not %v", what, r, e, want)
	}
}

// 23.3: all that runs show, with the picks of the first run that does.
func TestReport(t *testing.T) {
	well, dead := gos(0, 0, 0, 0, 0, 1, 1, 1, 1), gos(0, 0, 1)
	turned := gos(0, 1, 0)
	deadlock := at(api.KindDeadlock, 0, 2)
	reports(t, "no runs", crossed, plenty, nil)
	reports(t, "no picks", crossed, plenty, []api.Run{{}})
	reports(t, "all is well", crossed, plenty, []api.Run{{Picks: well}, {Picks: well}})
	reports(t, "one run shows it", crossed, plenty, []api.Run{{Picks: well}, {Picks: dead}}, api.Finding{Found: deadlock, Picks: dead})
	reports(t, "the first of two", crossed, plenty, []api.Run{{Picks: turned}, {Picks: dead}}, api.Finding{Found: deadlock, Picks: turned})
	reports(t, "the other first", crossed, plenty, []api.Run{{Picks: dead}, {Picks: turned}}, api.Finding{Found: deadlock, Picks: dead})
	reports(t, "a beginning comes first", stores, plenty, []api.Run{{Picks: gos(0, 1)}, {Picks: turned}}, api.Finding{Found: raced(0, 0, 1, 1, 0), Picks: turned})
	reports(t, "repeats and cut ones count too", crossed, plenty, []api.Run{{Picks: turned, Repeat: true, Cut: true}, {Picks: dead}}, api.Finding{Found: deadlock, Picks: turned})
}

// 23.3: each finding has the picks of the first run that shows just that, in the order of what was found.
func TestReportOfSeveral(t *testing.T) {
	// the race is shown by the second run, the assertion by all, the rest by the third one.
	first, second, third := gos(0, 0, 0, 1), gos(0, 0, 0, 2, 3), gos(0, 0, 0, 1, 3, 2, 3)
	reports(t, "several", many, plenty, []api.Run{{Picks: first}, {Picks: second}, {Picks: third}},
		api.Finding{Found: at(api.KindAssert, 0, 3), Picks: first},
		api.Finding{Found: fault(2, 1, api.WhyZero), Picks: second},
		api.Finding{Found: at(api.KindLeak, 1, 1), Picks: third},
		api.Finding{Found: at(api.KindLeak, 3, 1), Picks: third},
		api.Finding{Found: raced(0, 2, 0, 3, 0), Picks: second})
	reports(t, "several at once", many, plenty, []api.Run{{Picks: third}, {Picks: second}, {Picks: first}},
		api.Finding{Found: at(api.KindAssert, 0, 3), Picks: third},
		api.Finding{Found: fault(2, 1, api.WhyZero), Picks: third},
		api.Finding{Found: at(api.KindLeak, 1, 1), Picks: third},
		api.Finding{Found: at(api.KindLeak, 3, 1), Picks: third},
		api.Finding{Found: raced(0, 2, 0, 3, 0), Picks: third})
}

// 23.3: as many runs as there may be.
func TestReportOfManyRuns(t *testing.T) {
	l := make([]api.Run, api.MaxRuns)
	l[api.MaxRuns-1].Picks = gos(0)
	reports(t, "the last run", twice, plenty, l, api.Finding{Found: at(api.KindDeadlock, 0, 1), Picks: gos(0)})
}
