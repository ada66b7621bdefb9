package graph_test

import (
	"testing"

	"scarab/api"
	"scarab/graph"
	"scarab/sample"
)

// counted asks how many schedules there are, how long the longest one is, and whether that is told.
func counted(t *testing.T, what, text string, most, paths, depth int, told bool) {
	t.Helper()
	if n, is, e := graph.Paths(parsed(t, text), fuel, most); n != paths || is != told || e != api.OK {
		t.Errorf("%s: Paths %d %v %v, not %d %v", what, n, is, e, paths, told)
	}
	if n, is, e := graph.Depth(parsed(t, text), fuel, most); n != depth || is != told || e != api.OK {
		t.Errorf("%s: Depth %d %v %v, not %d %v", what, n, is, e, depth, told)
	}
}

// 16.3: the chapter's examples, and others that are written out.
func TestPaths(t *testing.T) {
	counted(t, "one yield", lone, 9, 1, 1, true)
	counted(t, "one yield, as many states", lone, 2, 1, 1, true)
	counted(t, "one yield, one left out", lone, 1, 0, 0, false)
	counted(t, "for ever", ring, 9, 0, 0, false)
	counted(t, "two that yield", pair, 9, 2, 3, true)
	counted(t, "two that yield, one left out", pair, 4, 0, 0, false)
	counted(t, "an end", none, 1, 1, 0, true)
	counted(t, "a deadlock", stuck, 9, 1, 1, true)
	counted(t, "a ring behind two", three, 9, 0, 0, false)
	counted(t, "a ring, and a part left out", three, 4, 0, 0, false)
	counted(t, "rings", eight, 9, 0, 0, false)
	counted(t, "alternatives", selects(3, 3), 9, 192, 5, true)
	// a run that ends early: the one that loads 1 has a yield fewer
	counted(t, "runs of two lengths", "scarab\natomic 0\nfunc 0 1\nspawn _ f1 r0\nconst r0 1\nstore v0 r0\nend\nfunc 0 1\nload r0 v0\nif r0 @3\nyield\nend", 9, 3, 4, true)
	// one way ends in a stuck state, the other goes on for ever
	counted(t, "a ring on one way", "scarab\nchan 1\nfunc 0 0\nchoose _\nonrecv c0 _ @2\nonrecv c0 _ @3\nclose c0\nselect s0\nend\nyield\njump @3", 9, 0, 0, false)
	counted(t, "spun", "scarab\nfunc 0 0\nyield\njump @1", 9, 1, 1, true)
}

// 16.3: more than 2^62 schedules are told as 2^62.
func TestPathsCapped(t *testing.T) {
	counted(t, "4^30", selects(30, 1), 99, 1<<60, 32, true)
	counted(t, "3 * 4^30", selects(30, 3), 99, 3<<60, 32, true)
	counted(t, "2 * 4^30", selects(30, 2), 99, 1<<61, 32, true)
	counted(t, "4^31", selects(30, 4), 99, 1<<62, 32, true)
	counted(t, "4^31 again", selects(31, 1), 99, 1<<62, 33, true)
	counted(t, "2 * 4^31", selects(31, 2), 99, 1<<62, 33, true)
	counted(t, "3 * 4^31", selects(31, 3), 99, 1<<62, 33, true)
	counted(t, "4^32", selects(31, 4), 99, 1<<62, 33, true)
	for times := range 60 {
		counted(t, "far more", selects(32+times, 3), 999, 1<<62, 34+times, true)
	}
	// one schedule more: a select ahead of all others may go to the end
	counted(t, "4^1 + 1", aside(1), 99, 5, 3, true)
	counted(t, "4^30 + 1", aside(30), 99, 1<<60+1, 32, true)
	counted(t, "4^31 + 1", aside(31), 99, 1<<62, 33, true)
	counted(t, "4^32 + 1", aside(32), 99, 1<<62, 34, true)
}

// 16.3: all ways, gone through one by one.
func TestPathsModel(t *testing.T) {
	var told struct{ some, many, ring, part int }
	for i, x := range tasks(400) {
		g := worked(t, x.p, x.fuel, x.most)
		paths, depth, some := 0, 0, g.Complete && len(onRings(g)) == 0
		if some {
			few := false
			if paths, depth, few = walked(g, 0, 20000); !few {
				continue
			}
		}
		if n, is, e := graph.Paths(x.p, x.fuel, x.most); n != paths || is != some || e != api.OK {
			t.Errorf("%d: Paths %d %v %v, not %d %v", i, n, is, e, paths, some)
		}
		if n, is, e := graph.Depth(x.p, x.fuel, x.most); n != depth || is != some || e != api.OK {
			t.Errorf("%d: Depth %d %v %v, not %d %v", i, n, is, e, depth, some)
		}
		tally(&told.some, some)
		tally(&told.many, paths > 5)
		tally(&told.ring, g.Complete && !some)
		tally(&told.part, !g.Complete)
	}
	if min(told.some, told.many, told.ring, told.part) < 15 {
		t.Errorf("told %+v", told)
	}
}

// 16.3: longer ways than a walk through all of them could come to the end of.
func TestLongWays(t *testing.T) {
	for seed := range uint64(5) {
		p := sample.Racy(seed)
		n, is, e := graph.Paths(p, fuel, api.MaxStates)
		d, was, e1 := graph.Depth(p, fuel, api.MaxStates)
		if n < 1 || !is || e != api.OK || d < 4 || !was || e1 != api.OK {
			t.Errorf("seed %d: %d %v %v, %d %v %v", seed, n, is, e, d, was, e1)
		}
	}
	text := "scarab\natomic 0\nfunc 0 2\nconst r0 -1\nconst r1 20000\nyield\nadd r1 r1 r0\nif r1 @2\nend"
	counted(t, "a long chain", text, api.MaxStates, 1, 20000, true)
}
