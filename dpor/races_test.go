package dpor_test

import (
	"slices"
	"strings"
	"testing"

	"scarab/api"
	"scarab/dpor"
	"scarab/sample"
	"scarab/sched"
	"scarab/state"
)

// races asks for the races behind picks; of goroutines further on there is none.
func races(t *testing.T, what, text string, picks []api.Pick, b api.Budget, want ...int) {
	t.Helper()
	for len(want) < api.MaxGos {
		want = append(want, -1)
	}
	if l, e := dpor.Races(parsed(t, text), picks, b); e != api.OK || !slices.Equal(l, want) {
		t.Errorf("%s: %v %v, not %v", what, l, e, want)
	}
}

// 19.2: the last event that a next step depends on and that is not behind the goroutine.
func TestRaces(t *testing.T) {
	races(t, "no picks", stores, nil, plenty)
	races(t, "no picks, no steps", stores, []api.Pick{}, budget(0, 0))
	races(t, "a spawn is behind both", stores, gos(0), plenty, -1, -1)
	races(t, "main stored", stores, gos(0, 0), plenty, -1, 1)
	races(t, "with just these steps", stores, gos(0, 0), budget(2, 0), -1, 1)
	races(t, "the other one stored", stores, gos(0, 1), plenty, 1, -1)
	races(t, "who has ended has none", stores, gos(0, 1, 0), plenty)
	races(t, "independent", pair, gos(0, 0), plenty)
	races(t, "one that is not ready", locked, gos(0, 0), plenty, -1, 1)
	races(t, "the later one of two", locked, gos(0, 0, 0), plenty, -1, 2)
	races(t, "what its parent did ahead is behind it", waits, gos(0, 0, 0), plenty, -1, -1, -1)
	races(t, "what its parent did then is not", waits, gos(0, 0, 0, 0), plenty, -1, 3, -1)
	races(t, "of one spawned by another one", later, gos(0, 0, 1), plenty, -1, -1, 1)
	races(t, "what it loaded is behind it", passed, gos(0, 0, 1, 2, 0), plenty, -1, -1, 4)
	six := strings.Replace(stores, "spawn _ f1 r0\n", strings.Repeat("spawn _ f1 r0\n", 5), 1)
	races(t, "six", six, gos(0, 0, 0, 0, 0, 0), plenty, -1, 5, 5, 5, 5, 5)
	races(t, "six, others stored", six, gos(0, 0, 0, 0, 0, 5, 3), plenty, 6, 6, 6, -1, 6, -1)
}

// 19.2: what happens before a goroutine's events, or before its spawn, is behind it, however far round; if the last event
// that it depends on is, an earlier one may not be.
func TestBehind(t *testing.T) {
	// 1 stores to v0 and to v1; 2 loads v1 and stores to v0.
	handed := "scarab\nvar 0\nvar 0\nfunc 0 1\nspawn _ f1 r0\nspawn _ f2 r0\nend\nfunc 0 1\nstore v0 r0\nstore v1 r0\nend\nfunc 0 1\nload r0 v1\nstore v0 r0\nend"
	races(t, "it loaded what came behind", handed, gos(0, 0, 1, 1, 2), plenty, -1, -1, -1)
	races(t, "it loaded ahead", handed, gos(0, 0, 1, 2, 1), plenty, -1, -1, 2)
	// main and 1 load v0, main hands something to 1, which stores to v0: main's load is behind it, that of 2 is not.
	reads := "scarab\nvar 0\nchan 1\nfunc 0 1\nspawn _ f1 r0\nspawn _ f2 r0\nload r0 v0\nsend c0 r0\nend\nfunc 0 1\nrecv r0 c0 _\nstore v0 r0\nend\nfunc 0 1\nload r0 v0\nend"
	races(t, "an earlier one", reads, gos(0, 0, 2, 0, 0, 1), plenty, -1, 2, -1)
	races(t, "the later one", reads, gos(0, 0, 0, 2, 0, 1), plenty, -1, 3, -1)
	// main stores ahead of the spawn of 1, which spawns 2, which stores.
	line := "scarab\nvar 0\nfunc 0 1\nstore v0 r0\nspawn _ f1 r0\nend\nfunc 0 1\nspawn _ f2 r0\nend\nfunc 0 1\nstore v0 r0\nend"
	races(t, "ahead of the spawn of the one that spawned it", line, gos(0, 0, 1), plenty, -1, -1, -1)
	// main spawns 2 behind all that 1 did and main joined.
	joined := "scarab\nvar 0\nfunc 0 1\nspawn r0 f1 r0\njoin r0\nspawn _ f1 r0\nend\nfunc 0 1\nstore v0 r0\nend"
	races(t, "a join between", joined, gos(0, 1, 0, 0), plenty, -1, -1, -1)
	races(t, "a join depends on what is joined", joined, gos(0, 1), plenty, 1, -1)
	// a spawn that fails spawns nobody: it tells 0, which is main's number.
	full := "scarab\nfunc 0 0\n" + strings.Repeat("spawn _ f1 r0\n", 5) + "yield\nspawn _ f1 r0\nend\nfunc 0 0\nspawn _ f2 r0\nend\nfunc 0 0\nyield\nend"
	races(t, "spawns race with later ones", full, gos(0, 0, 0, 0, 0), plenty, -1, 4, 4, 4, 4, -1)
	races(t, "a spawn that failed races with spawns", full, gos(0, 0, 0, 0, 0, 1), plenty, -1, -1, 5, 5, 5, 5)
	races(t, "with main's, too", full, gos(0, 0, 0, 0, 0, 1, 0), plenty, 5, -1, 5, 5, 5, 5)
}

// 19.2: by the chapter's words, of sampled picks.
func TestRacesModel(t *testing.T) {
	var told struct{ some, none, waits, earlier int }
	for i, x := range tasks(600) {
		x.b.Steps, x.b.Runs = 25, 0
		picks, e := sched.Choose(x.p, sample.Choices(uint64(i), i%20), x.b)
		if e != api.OK {
			t.Fatal(e)
		}
		for n := range len(picks) + 1 {
			at, open := ran(t, x.p, picks[:n], x.b.Fuel)
			want := slices.Repeat([]int{-1}, api.MaxGos)
			for _, g := range state.Live(at.End) {
				want[g] = race(t, x.p, at, g)
				switch {
				case want[g] < 0:
					told.none++
					continue
				case !has(open, g):
					told.waits++
				default:
					told.some++
				}
				if depends(at.Events[want[g]+1:], touch(t, x.p, at.End, g)) {
					told.earlier++
				}
			}
			if l, e := dpor.Races(x.p, picks[:n], x.b); e != api.OK || !slices.Equal(l, want) {
				t.Errorf("%d: behind %v %v %v, not %v", i, picks[:n], l, e, want)
			}
		}
	}
	if min(told.some, told.none, told.waits) < 200 || told.earlier < 50 {
		t.Errorf("told %+v", told)
	}
}

// depends tells whether one of some events and a step depend on each other.
func depends(l []api.Event, step []api.Access) bool {
	return slices.ContainsFunc(l, func(x api.Event) bool { return meets(x.Touch[:x.Touches], step) })
}
