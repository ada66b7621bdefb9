package verdict_test

import (
	"slices"
	"testing"

	"scarab/api"
	"scarab/verdict"
)

// shows asks what picks of a text's program show, all of it and each.
func shows(t *testing.T, what, text string, picks []api.Pick, b api.Budget, want ...api.Found) {
	t.Helper()
	p := parsed(t, text)
	l, e := verdict.Of(p, picks, b)
	if e != api.OK || !slices.Equal(l, want) {
		t.Errorf("%s: %v %v, not %v", what, l, e, want)
	}
	for _, f := range want {
		if is, e := verdict.Shows(p, picks, f, b); !is || e != api.OK {
			t.Errorf("%s: Shows of %v: %v %v", what, f, is, e)
		}
	}
}

// 23.1: the chapter's examples.
func TestExamples(t *testing.T) {
	failing := "scarab\nfunc 0 1\nyield\nconst r0 0\nassert r0 0\nend"
	shows(t, "an assertion", failing, gos(0), plenty, at(api.KindAssert, 0, 2))
	shows(t, "two locks", twice, gos(0), plenty, at(api.KindDeadlock, 0, 1))
}

// 23.1: the document's examples 1 to 7 and 9.
func TestExamplesOfTheWhole(t *testing.T) {
	shows(t, "a yield", lone, gos(0), budget(1, 1))
	shows(t, "two locks", twice, gos(0), budget(1, 1), at(api.KindDeadlock, 0, 1))
	shows(t, "two stores", stores, gos(0, 0, 1), plenty, raced(0, 0, 1, 1, 0))
	shows(t, "two stores, the other way round", stores, gos(0, 1, 0), plenty, raced(0, 0, 1, 1, 0))
	atomic := "scarab\natomic 0\nfunc 0 1\nspawn _ f1 r0\nstore v0 r0\nend\nfunc 0 1\nstore v0 r0\nend"
	shows(t, "two stores to an atomic one", atomic, gos(0, 0, 1), plenty)
	shows(t, "crossed locks", crossed, gos(0, 0, 1), plenty, at(api.KindDeadlock, 0, 2))
	shows(t, "crossed locks that end well", crossed, gos(0, 0, 0, 0, 0, 1, 1, 1, 1), plenty)
	shows(t, "a send to nobody", left, gos(0, 1), plenty, at(api.KindLeak, 1, 0))
	shows(t, "a division", "scarab\nfunc 0 2\nyield\nconst r0 1\ndiv r0 r0 r1\nend", gos(0), plenty, fault(0, 2, api.WhyZero))
	shows(t, "for ever", "scarab\nfunc 0 0\nyield\njump @0", gos(0, 0, 0), budget(3, 1))
}

// 23.1: each way to fail.
func TestFailures(t *testing.T) {
	for _, x := range []struct {
		what, text string
		picks      []api.Pick
		want       api.Found
	}{
		{"an assertion ahead of all steps", "scarab\nfunc 0 1\nassert r0 9\nend", nil, at(api.KindAssert, 0, 0)},
		{"a remainder", "scarab\nfunc 0 1\nyield\nrem r0 r0 r0\nend", gos(0), fault(0, 1, api.WhyZero)},
		{"a shift", "scarab\nfunc 0 1\nconst r0 -1\nshl r0 r0 r0\nend", nil, fault(0, 1, api.WhyShift)},
		{"a send", "scarab\nchan 1\nfunc 0 1\nclose c0\nsend c0 r0\nend", gos(0, 0), fault(0, 1, api.WhyClosed)},
		{"a close", "scarab\nchan 1\nfunc 0 0\nclose c0\nclose c0\nend", gos(0, 0), fault(0, 1, api.WhyTwice)},
		{"an unlock", "scarab\nmutex\nfunc 0 0\nunlock l0\nend", gos(0), fault(0, 0, api.WhyUnlock)},
		{"a join of itself", "scarab\nfunc 0 1\njoin r0\nend", gos(0), fault(0, 0, api.WhyJoin)},
		{"one too many", "scarab\nfunc 0 0\nspawn _ f1 r0\njump @0\nfunc 0 0\nend", gos(0, 0, 0, 0, 0, 0), fault(0, 0, api.WhyGos)},
		{"another one than main", "scarab\nfunc 0 0\nspawn _ f1 r0\nend\nfunc 0 1\nyield\nassert r0 0\nend", gos(0, 1), at(api.KindAssert, 1, 1)},
		{"one that is spawned", "scarab\nfunc 0 0\nspawn _ f1 r0\nyield\nend\nfunc 0 1\nassert r0 0\nend", gos(0), at(api.KindAssert, 1, 0)},
		{"an offer that is lost", "scarab\nchan 0\nfunc 0 0\nspawn _ f1 r0\nclose c0\nend\nfunc 0 1\nsend c0 r0\nend", gos(0, 1, 0, 1), fault(1, 0, api.WhyClosed)},
	} {
		shows(t, x.what, x.text, x.picks, plenty, x.want)
	}
}

// 23.1: who is left behind where nothing is ready: main alone, if it is live; else all that are.
func TestStuck(t *testing.T) {
	locks := "scarab\nmutex\nfunc 0 0\nlock l0\nspawn _ f1 r0\nspawn _ f1 r0\nend\nfunc 0 0\nlock l0\nend"
	shows(t, "two at one place: once", locks, gos(0, 0, 0), plenty, at(api.KindLeak, 1, 0))
	shows(t, "main goes on", locks, gos(0, 0), plenty)
	both := "scarab\nmutex\nchan 0\nfunc 0 0\nlock l0\nspawn _ f2 r0\nspawn _ f1 r0\nend\nfunc 0 0\nlock l0\nend\nfunc 0 1\nyield\nsend c0 r0\nend"
	shows(t, "at a lock, and at an offer, by their places", both, gos(0, 0, 0, 1, 1), plenty, at(api.KindLeak, 1, 0), at(api.KindLeak, 2, 1))
	shows(t, "one of them still goes on", both, gos(0, 0, 0, 1), plenty)
	shows(t, "so it does, and no step is left", both, gos(0, 0, 0, 1), budget(4, 1))
	waits := "scarab\nmutex\nfunc 0 1\nlock l0\nspawn r0 f1 r0\njoin r0\nend\nfunc 0 0\nlock l0\nend"
	shows(t, "main waits, and so does the other one", waits, gos(0, 0), plenty, at(api.KindDeadlock, 0, 2))
	offers := "scarab\nchan 0\nfunc 0 1\nsend c0 r0\nend"
	shows(t, "main waits for its offer", offers, gos(0), plenty, at(api.KindDeadlock, 0, 0))
	shows(t, "nothing is ready at all", "scarab\nchan 0\nfunc 0 0\nrecv _ c0 _\nend", nil, budget(0, 0), at(api.KindDeadlock, 0, 0))
	shows(t, "main has ended at once", "scarab\nfunc 0 0\nend", nil, budget(0, 0))
	fails := "scarab\nchan 0\nfunc 0 1\nspawn _ f1 r0\nassert r0 0\nend\nfunc 0 0\nrecv _ c0 _\nend"
	shows(t, "main has failed: another one is left", fails, gos(0), plenty, at(api.KindAssert, 0, 1), at(api.KindLeak, 1, 0))
}

// 23.1: where one is spun, nobody is said to be left behind; what failed and what races is told.
func TestSpun(t *testing.T) {
	spins := "scarab\nchan 0\nfunc 0 0\nspawn _ f1 r0\nspawn _ f2 r0\nend\nfunc 0 0\nrecv _ c0 _\nend\nfunc 0 0\nyield\njump @1"
	shows(t, "main has ended, one is left, one goes on", spins, gos(0, 0), plenty)
	shows(t, "main has ended, one is left, one is spun", spins, gos(0, 0, 2), plenty)
	shows(t, "main is spun", "scarab\nchan 0\nfunc 0 0\nspawn _ f1 r0\njump @1\nfunc 0 0\nrecv _ c0 _\nend", gos(0), plenty)
	waits := "scarab\nchan 0\nfunc 0 0\nspawn _ f1 r0\nrecv _ c0 _\nend\nfunc 0 0\njump @0"
	shows(t, "main waits, one is spun", waits, gos(0), plenty)
	fails := "scarab\nvar 0\nfunc 0 1\nspawn _ f1 r0\nspawn _ f1 r0\nassert r0 0\nend\nfunc 0 1\nstore v0 r0\njump @1"
	shows(t, "a failure and a race beside", fails, gos(0, 0, 1, 2), plenty, at(api.KindAssert, 0, 2), raced(0, 1, 0, 1, 0))
}

// 23.1: much at once, in its order; a beginning shows what has come so far.
func TestMany(t *testing.T) {
	// main's assertion, 2's fault, 1 at its second lock, 3 at its offer, 2's and 3's race
	assertion, rem := at(api.KindAssert, 0, 3), fault(2, 1, api.WhyZero)
	one, three, stored := at(api.KindLeak, 1, 1), at(api.KindLeak, 3, 1), raced(0, 2, 0, 3, 0)
	picks := gos(0, 0, 0, 1, 3, 2, 3)
	shows(t, "all", many, picks, plenty, assertion, rem, one, three, stored)
	shows(t, "all, otherwise", many, gos(0, 0, 0, 2, 3, 3, 1), plenty, assertion, rem, one, three, stored)
	shows(t, "an offer is not made yet", many, picks[:6], plenty, assertion, rem, stored)
	shows(t, "no race yet", many, picks[:5], plenty, assertion)
	shows(t, "nothing yet", many, picks[:2], plenty)
	twoOf := "scarab\nfunc 0 0\nspawn _ f1 r0\nspawn _ f1 r0\nend\nfunc 0 1\nyield\nassert r0 0\nend"
	shows(t, "two fail at one place: once", twoOf, gos(0, 0, 1, 2), plenty, at(api.KindAssert, 1, 1))
	races := "scarab\nvar 0\nvar 0\nfunc 0 1\nspawn _ f1 r0\nspawn _ f2 r0\nspawn _ f2 r0\nstore v1 r0\nend\nfunc 0 1\nload r0 v1\nend\nfunc 0 1\nstore v0 r0\nend"
	shows(t, "races by their variables first", races, gos(0, 0, 0, 0, 1, 2, 3), plenty, raced(0, 2, 0, 2, 0), raced(1, 0, 3, 1, 0))
}

// 23.1: what is much like what a run shows, and is not.
func TestShowsNot(t *testing.T) {
	p, picks := parsed(t, many), gos(0, 0, 0, 1, 3, 2, 3)
	l, e := verdict.Of(p, picks, plenty)
	if e != api.OK || len(l) != 5 {
		t.Fatal(l, e)
	}
	odd := append([]api.Found{{}}, at(api.KindDeadlock, 0, 3))
	for _, f := range l {
		for _, more := range append([]int{1}, far...) {
			for _, change := range []func(*api.Found){
				func(f *api.Found) { f.Kind += more }, func(f *api.Found) { f.Num += more }, func(f *api.Found) { f.Why += more },
				func(f *api.Found) { f.A.Func += more }, func(f *api.Found) { f.A.PC += more },
				func(f *api.Found) { f.B.Func += more }, func(f *api.Found) { f.B.PC += more },
			} {
				g := f
				change(&g)
				if !slices.Contains(l, g) {
					odd = append(odd, g)
				}
			}
		}
	}
	for _, f := range odd {
		if is, e := verdict.Shows(p, picks, f, plenty); is || e != api.OK {
			t.Errorf("%v: %v %v", f, is, e)
		}
	}
	turned := raced(0, 3, 0, 2, 0)
	if is, e := verdict.Shows(p, picks, turned, plenty); is || e != api.OK {
		t.Errorf("a race's places the other way round: %v %v", is, e)
	}
}

// 23.1: by the chapter's words, of sampled programs and picks.
func TestModel(t *testing.T) {
	var kinds [api.KindRace + 1]int
	several := 0
	for i, x := range tasks(t, 2000) {
		want := shown(t, x.p, x.picks, x.b)
		l, e := verdict.Of(x.p, x.picks, x.b)
		if e != api.OK || !slices.Equal(l, want) {
			t.Errorf("%d: %v %v, not %v", i, l, e, want)
		}
		for _, f := range want {
			kinds[f.Kind]++
			if is, e := verdict.Shows(x.p, x.picks, f, x.b); !is || e != api.OK {
				t.Errorf("%d: Shows of %v: %v %v", i, f, is, e)
			}
			near := f
			near.A.PC++
			if is, e := verdict.Shows(x.p, x.picks, near, x.b); is != slices.Contains(want, near) || e != api.OK {
				t.Errorf("%d: Shows of %v: %v %v", i, near, is, e)
			}
		}
		if len(want) > 1 {
			several++
		}
	}
	if slices.Min(kinds[1:]) < 50 || several < 100 {
		t.Errorf("told %v, several %d", kinds, several)
	}
}
