package shrink_test

import (
	"slices"
	"testing"

	"scarab/api"
	"scarab/shrink"
)

// shrinks asks what is left of picks of a text's program, and by how many tries; and that this alone is least.
func shrinks(t *testing.T, what, text string, picks []api.Pick, f api.Found, b api.Budget, tries int, want ...int) {
	t.Helper()
	p := parsed(t, text)
	l, n, e := shrink.Shrink(p, picks, f, b)
	if e != api.OK || !slices.Equal(l, gos(want...)) || n != tries {
		t.Errorf("%s: %v %d %v, not %v %d", what, l, n, e, want, tries)
	}
	if is, e := shrink.Least(p, picks, f, b); is != slices.Equal(picks, gos(want...)) || e != api.OK {
		t.Errorf("%s: Least %v %v", what, is, e)
	}
	if is, e := shrink.Least(p, gos(want...), f, b); !is || e != api.OK {
		t.Errorf("%s: what is left is not least: %v", what, e)
	}
}

// 24.2: the chapter's example: ten steps of another goroutine, for which main waits or not.
func TestExample(t *testing.T) {
	f := at(api.KindAssert, 0, 2)
	ten := append(append(gos(0), gos(1, 1, 1, 1, 1, 1, 1, 1, 1, 1)...), api.Pick{})
	// of 12 picks: 12 beginnings, without main, without the other one: this is it. Of both: 2 beginnings, 2 without main.
	shrinks(t, "main does not wait", fails, ten, f, plenty, 12+2+2+2, 0, 0)
	shrinks(t, "main waits", waits, gos(0, 1, 1, 1, 0), f, plenty, 5+5+2, 0, 1, 1, 1, 0)
}

// 24.2: moves of each kind; which of them are tried.
func TestShrink(t *testing.T) {
	f := at(api.KindAssert, 0, 2)
	shrinks(t, "it is least", fails, gos(0, 0), f, plenty, 2+2, 0, 0)
	shrinks(t, "a beginning", fails, gos(0, 0, 1, 1), f, plenty, 3+4, 0, 0)
	shrinks(t, "a beginning, then without one", fails, gos(0, 1, 0, 1), f, plenty, 4+3+2+4, 0, 0)
	// the blocks are changed about twice; what begins with the other one is tried in vain, as long as it has fewer switches.
	shrinks(t, "fewer switches", stores, gos(0, 1, 0, 1, 0), race, plenty, (5+5+2)+(5+5+2)+(5+5), 0, 0, 0, 1, 1)
	shrinks(t, "a move with as many switches is not tried", stores, gos(0, 0, 0, 1, 1), race, plenty, 10, 0, 0, 0, 1, 1)
	shrinks(t, "it fails ahead of all steps", "scarab\nfunc 0 1\nassert r0 0\nend", nil, at(api.KindAssert, 0, 0), budget(0, 0), 0)
	spawned := "scarab\nfunc 0 0\nspawn _ f1 r0\nyield\nend\nfunc 0 1\nassert r0 0\nend"
	shrinks(t, "the last of two beginnings", spawned, gos(0, 0), at(api.KindAssert, 1, 0), plenty, 2+2, 0)
}

// 24.2: a deadlock is shown by no beginning: picks can go, if nothing is ready without them.
func TestShrinkDeadlock(t *testing.T) {
	shrinks(t, "two locks", twice, gos(0), at(api.KindDeadlock, 0, 1), budget(1, 0), 2, 0)
	// the third one's picks can not go, it would be ready; of blocks that are changed about just one way has fewer switches.
	shrinks(t, "crossed locks", crossed, gos(0, 0, 2, 1, 2, 0), at(api.KindDeadlock, 0, 3), plenty, (6+6+1)+(6+6), 0, 0, 1, 2, 2, 0)
	// main holds the lock for which the other one would wait.
	text := "scarab\nmutex\nfunc 0 0\nspawn _ f1 r0\nlock l0\nlock l0\nend\nfunc 0 0\nlock l0\nunlock l0\nend"
	shrinks(t, "the other one would wait", text, gos(0, 1, 1, 0), at(api.KindDeadlock, 0, 2), plenty, (4+2)+(2+2), 0, 0)
}

// 24.2: the alternatives of picks are kept.
func TestAlternatives(t *testing.T) {
	// main receives from its second channel, and fails just there.
	text := `scarab
		chan 1
		chan 1
		func 0 1
		choose _
		onrecv c0 r0 @5
		onrecv c1 r0 @4
		spawn _ f1 r0
		send c0 r0
		send c1 r0
		select s0
		assert r0 0
		end
		func 0 0
		yield
		end`
	p := parsed(t, text)
	picks := []api.Pick{{}, {}, {Go: 1}, {}, {Alt: 1}}
	want := []api.Pick{{}, {}, {}, {Alt: 1}}
	l, n, e := shrink.Shrink(p, picks, at(api.KindAssert, 0, 4), plenty)
	if e != api.OK || !slices.Equal(l, want) || n != 5+3+4+4 {
		t.Errorf("%v %d %v", l, n, e)
	}
}

// 24.2: by the chapter's words, of sampled programs.
func TestShrinkModel(t *testing.T) {
	var kinds [api.KindRace + 1]struct{ all, shorter, switches int }
	for i, x := range tasks(t, 2000) {
		want, tries := shrunk(t, x.p, x.picks, x.f, x.b)
		l, n, e := shrink.Shrink(x.p, x.picks, x.f, x.b)
		if e != api.OK || !slices.Equal(l, want) || n != tries {
			t.Errorf("%d: %v %d %v, not %v %d", i, l, n, e, want, tries)
		}
		least := !slices.ContainsFunc(shorterOf(x.picks), func(move []api.Pick) bool { return fits(t, x.p, move, x.f, x.b) })
		if is, e := shrink.Least(x.p, x.picks, x.f, x.b); is != least || e != api.OK {
			t.Errorf("%d: Least %v %v, not %v", i, is, e, least)
		}
		told := &kinds[x.f.Kind]
		told.all++
		if len(want) < len(x.picks) {
			told.shorter++
		} else if !slices.Equal(want, x.picks) {
			told.switches++
		}
	}
	for kind, told := range kinds[1:] {
		if told.all < 50 || told.shorter+told.switches < 20 {
			t.Errorf("of the kind %d told %+v", kind+1, told)
		}
	}
}

// 24.3: the findings in their order, each with its picks made shorter.
func TestAll(t *testing.T) {
	p := parsed(t, stores)
	other := parsed(t, fails)
	f := at(api.KindAssert, 0, 2)
	for _, x := range []struct {
		p       api.Prog
		l, want []api.Finding
	}{
		{p, nil, nil},
		{p, []api.Finding{{Found: race, Picks: gos(0, 1, 0, 1, 0)}}, []api.Finding{{Found: race, Picks: gos(0, 0, 0, 1, 1)}}},
		{other, []api.Finding{{Found: f, Picks: gos(0, 1, 0)}, {Found: f, Picks: gos(0, 0)}, {Found: f, Picks: gos(0, 0, 1)}},
			[]api.Finding{{Found: f, Picks: gos(0, 0)}, {Found: f, Picks: gos(0, 0)}, {Found: f, Picks: gos(0, 0)}}},
	} {
		if l, e := shrink.All(x.p, x.l, plenty); e != api.OK || !slices.EqualFunc(l, x.want, same) {
			t.Errorf("%v: %v %v, not %v", x.l, l, e, x.want)
		}
	}
	// out of order, and each by itself.
	two := parsed(t, "scarab\nfunc 0 1\nspawn _ f1 r0\nyield\nassert r0 0\nend\nfunc 0 1\nyield\nrem r0 r0 r0\nend")
	rem := api.Found{Kind: api.KindFault, A: api.Spot{Func: 1, PC: 1}, Why: api.WhyZero}
	both := gos(0, 0, 1)
	want := []api.Finding{{Found: rem, Picks: gos(0, 1)}, {Found: f, Picks: gos(0, 0)}}
	if l, e := shrink.All(two, []api.Finding{{Found: rem, Picks: both}, {Found: f, Picks: both}}, plenty); e != api.OK || !slices.EqualFunc(l, want, same) {
		t.Errorf("%v %v, not %v", l, e, want)
	}
}
