package sleep_test

import (
	"slices"
	"strings"
	"testing"

	"scarab/api"
	"scarab/sample"
	"scarab/sched"
	"scarab/sleep"
)

// asleep asks who sleeps behind picks.
func asleep(t *testing.T, what, text string, picks []api.Pick, b api.Budget, want ...int) {
	t.Helper()
	if l, e := sleep.Asleep(parsed(t, text), picks, b); e != api.OK || !slices.Equal(l, want) {
		t.Errorf("%s: %v %v, not %v", what, l, e, want)
	}
}

// 17.2: who went ahead sleeps till something comes that is not independent of its next step.
func TestAsleep(t *testing.T) {
	asleep(t, "no picks", pair, nil, plenty)
	asleep(t, "no picks, no steps", pair, []api.Pick{}, budget(0, 0))
	asleep(t, "the first is alone", pair, gos(0), plenty)
	asleep(t, "the least one is taken", pair, gos(0, 0), plenty)
	asleep(t, "the other one is taken", pair, gos(0, 1), plenty, 0)
	asleep(t, "with just these steps", pair, gos(0, 1), budget(2, 0), 0)
	asleep(t, "who sleeps is taken, and wakes", pair, gos(0, 1, 0), plenty)
	asleep(t, "not independent", stores, gos(0, 1), plenty)
	asleep(t, "three: the last one is taken", three, gos(0, 0, 2), plenty, 0, 1)
	asleep(t, "three: then the first, which sleeps", three, gos(0, 0, 2, 0), plenty, 1)
	asleep(t, "three: then the second, which sleeps", three, gos(0, 0, 2, 1), plenty, 0)
	asleep(t, "three: the second one, then the third", three, gos(0, 0, 1, 2), plenty, 0)
	asleep(t, "three: who is gone sleeps no more", three, gos(0, 0, 2, 1, 0), plenty)
	asleep(t, "one of both is not independent", mixed, gos(0, 0, 1), plenty)
	asleep(t, "both are independent of the third", mixed, gos(0, 0, 2), plenty, 0, 1)
	asleep(t, "one of the sleepers wakes the other", mixed, gos(0, 0, 2, 0), plenty)
	asleep(t, "an alternative does not matter", choice, []api.Pick{{}, {}, {}, {Go: 1}}, plenty, 0)
	asleep(t, "nor that it is the second", choice, []api.Pick{{}, {}, {}, {Alt: 1}}, plenty)
	six := strings.Replace(pair, "spawn _ f1 r0\n", strings.Repeat("spawn _ f1 r0\n", 5), 1)
	asleep(t, "six", six, gos(0, 0, 0, 0, 0, 5), plenty, 0, 1, 2, 3, 4)
	asleep(t, "six, the middle", six, gos(0, 0, 0, 0, 0, 3), plenty, 0, 1, 2)
}

// 17.2: who is not ready does not go to sleep, though it is less.
func TestNotReady(t *testing.T) {
	waits := "scarab\natomic 0\nfunc 0 1\nspawn _ f1 r0\nconst r0 1\nawait v0 r0\nend\nfunc 0 0\nyield\nyield\nend"
	asleep(t, "main waits", waits, gos(0, 1), plenty)
	locked := "scarab\nmutex\nfunc 0 0\nlock l0\nspawn _ f1 r0\nspawn _ f2 r0\nyield\nunlock l0\nend\nfunc 0 0\nlock l0\nend\nfunc 0 0\nyield\nend"
	asleep(t, "one waits for a lock", locked, gos(0, 0, 0, 2), plenty, 0)
	asleep(t, "the lock is free", locked, gos(0, 0, 0, 0, 0, 2), plenty, 1)
}

// model is who sleeps behind picks, worked out by the chapter's words.
func model(t *testing.T, p api.Prog, picks []api.Pick, fuel int) []int {
	t.Helper()
	var z []int
	for i, pick := range picks {
		open, s := ready(t, p, picks[:i], fuel)
		var next []int
		for g := range api.MaxGos {
			has := slices.ContainsFunc(open, func(o api.Pick) bool { return o.Go == g })
			gone := has && !slices.Contains(z, g) && g < pick.Go
			if (slices.Contains(z, g) || gone) && free(t, p, s, g, pick.Go) {
				next = append(next, g)
			}
		}
		z = next
	}
	return z
}

// 17.2: of sampled picks, be it that what is taken sleeps.
func TestAsleepModel(t *testing.T) {
	var told struct{ some, two, taken int }
	for i, x := range tasks(600) {
		x.b.Steps, x.b.Runs = 25, 0
		picks, e := sched.Choose(x.p, sample.Choices(uint64(i), i%20), x.b)
		if e != api.OK {
			t.Fatal(e)
		}
		for n := range len(picks) + 1 {
			want := model(t, x.p, picks[:n], x.b.Fuel)
			l, e := sleep.Asleep(x.p, picks[:n], x.b)
			if e != api.OK || !slices.Equal(l, want) {
				t.Errorf("%d: behind %v %v %v, not %v", i, picks[:n], l, e, want)
			}
			if len(want) > 0 {
				told.some++
			}
			if len(want) > 1 {
				told.two++
			}
			if n < len(picks) && slices.Contains(want, picks[n].Go) {
				told.taken++
			}
		}
	}
	if told.some < 200 || told.two < 30 || told.taken < 50 {
		t.Errorf("told %+v", told)
	}
}

// 17.1, 17.2: where the search comes to, those sleep with whom it came there, and none that it takes.
func TestAsleepInSearch(t *testing.T) {
	told := 0
	for i, x := range tasks(150) {
		all, _, some := worked(t, x.p, x.b.Steps, x.b.Fuel, 100)
		if !some {
			continue
		}
		for _, it := range all {
			for n := range len(it.run.Picks) + 1 {
				l, e := sleep.Asleep(x.p, it.run.Picks[:n], x.b)
				if e != api.OK || n < len(it.run.Picks) && slices.Contains(l, it.run.Picks[n].Go) {
					t.Errorf("%d: %v: %v %v at %d", i, it.run.Picks, l, e, n)
				}
				slices.Sort(it.z)
				if n == len(it.run.Picks) && !slices.Equal(l, it.z) {
					t.Errorf("%d: %v: %v, not %v", i, it.run.Picks, l, it.z)
				}
			}
			if len(it.z) > 0 {
				told++
			}
		}
	}
	if told < 200 {
		t.Errorf("told %d", told)
	}
}
