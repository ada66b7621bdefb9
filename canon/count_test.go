package canon_test

import (
	"math"
	"slices"
	"testing"

	"scarab/api"
	"scarab/canon"
)

// counted asks for how many orders a trace has, and for the answers at the edges of that number.
func counted(t *testing.T, what string, l []api.Event, want int) {
	t.Helper()
	for _, most := range []int{1, 2, want - 1, want, want + 1, 9999, 10000} {
		if most < 1 || most > 10000 {
			continue
		}
		if n, e := canon.Count(l, most); n != min(want, most) || e != api.OK {
			t.Errorf("%s: Count to %d: %d %v, not %d", what, most, n, e, min(want, most))
		}
	}
}

// chains are events of goroutines that have nothing to do with each other, so many of each.
func chains(lengths ...int) []api.Event {
	var l []api.Event
	for g, n := range lengths {
		l = append(l, slices.Repeat([]api.Event{event(g)}, n)...)
	}
	return l
}

// 13.4: the chapter's example, and counts that are well known.
func TestCount(t *testing.T) {
	counted(t, "none", nil, 1)
	counted(t, "none", []api.Event{}, 1)
	counted(t, "one", apart[:1], 1)
	counted(t, "apart", apart, 2)
	counted(t, "chained", chained, 1)
	counted(t, "six", chains(1, 1, 1, 1, 1, 1), 720)
	counted(t, "two and two", chains(2, 2), 6)
	counted(t, "three chains of two", chains(2, 2, 2), 90)
	counted(t, "two of seven", chains(7, 7), 3432)
	counted(t, "two of eight", chains(8, 8), 12870)
	counted(t, "one and the rest", chains(1, 255), 256)
	counted(t, "two and 139", chains(2, 139), 9870)
	counted(t, "two and 140", chains(2, 140), 10011)
	counted(t, "six of far too many", long()[0], math.MaxInt)
	counted(t, "one alone", long()[1], 1)
	counted(t, "sparse", long()[3], math.MaxInt)
	ends := append(chains(1, 1, 1, 1, 1, 1), slices.Repeat([]api.Event{event(0, w(1, 0))}, 250)...)
	for g := range api.MaxGos {
		ends[g] = event(g, r(1, 0))
	}
	counted(t, "six ahead of many", ends, 720)
	slices.Reverse(ends)
	counted(t, "six behind many", ends, 720)
	// each pair of loads may be changed about, between two stores that may not
	var pairs []api.Event
	for range 13 {
		pairs = append(pairs, event(0, r(1, 0)), event(1, r(1, 0)), event(2, w(1, 0)))
	}
	counted(t, "thirteen pairs", pairs, 8192)
	counted(t, "fourteen pairs", append(pairs, pairs[:3]...), 16384)
	counted(t, "fourteen pairs, the last one at the end", append(pairs, pairs[:2]...), 16384)
	counted(t, "pairs to the end", slices.Repeat(pairs[:3], 85), math.MaxInt)
}

// 13.4: Count, against all orders of short traces.
func TestCountAll(t *testing.T) {
	seen := map[int]int{}
	for _, l := range traces(t, 60) {
		l = l[:min(len(l), 6)]
		is := happens(l)
		want := 0
		orders(first(len(l)), 0, func(way []int) {
			if keeps(is, way) {
				want++
			}
		})
		counted(t, "short", l, want)
		seen[want]++
	}
	if len(seen) < 20 {
		t.Errorf("only these counts: %v", seen)
	}
}

// all is how many orders keep what happens before what, counted one by one, to most.
func all(is [][]bool, left []int, most int) int {
	if len(left) == 0 {
		return 1
	}
	n := 0
	for _, next := range free(is, left) {
		rest := slices.DeleteFunc(slices.Clone(left), func(i int) bool { return i == next })
		if n += all(is, rest, most-n); n >= most {
			return most
		}
	}
	return n
}

// 13.4: Count, against a count one by one.
func TestCountTraces(t *testing.T) {
	var told [2]int
	for _, l := range traces(t, 40) {
		l = l[:min(len(l), 14)]
		want := all(happens(l), first(len(l)), 3000)
		if n, e := canon.Count(l, 3000); n != want || e != api.OK {
			t.Errorf("%d %v, not %d: %v", n, e, want, l)
		}
		if want == 3000 {
			told[1]++
		} else if want > 20 {
			told[0]++
		}
	}
	if min(told[0], told[1]) < 10 {
		t.Errorf("told %v", told)
	}
}
