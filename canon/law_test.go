package canon_test

import (
	"slices"
	"testing"

	"scarab/api"
	"scarab/canon"
	"scarab/order"
)

// 13.5: the canonical order keeps what happens before what, and what it makes is in canonical order.
func TestFormLaws(t *testing.T) {
	for n, l := range append(traces(t, 100), long()...) {
		form, _ := canon.Form(l)
		if is, e := order.Linear(l, form); !is || e != api.OK {
			t.Errorf("%d: %v is not linear: %v", n, form, e)
		}
		done, e := canon.Apply(l, form)
		again, _ := canon.Form(done)
		if e != api.OK || !slices.Equal(again, first(len(l))) {
			t.Errorf("%d: the form of a form: %v %v", n, again, e)
		}
		same(t, "with its form", l, done, true)
	}
}

// 13.5: two traces are Same, if one is the other by a swap of independent neighbours, and by many; and not, if two that
// are unlike and depend are changed about.
func TestSwaps(t *testing.T) {
	var told [2]int
	for _, l := range traces(t, 60) {
		for i := 0; i+1 < len(l); i++ {
			if l[i] == l[i+1] {
				continue
			}
			other := slices.Clone(l)
			other[i], other[i+1] = other[i+1], other[i]
			want := !dependent(l[i], l[i+1])
			same(t, "a swap", l, other, want)
			if want {
				told[1]++
			} else {
				told[0]++
			}
		}
	}
	if min(told[0], told[1]) < 500 {
		t.Errorf("told %v", told)
	}
	for n, l := range append(traces(t, 60), long()...) {
		is := happens(l)
		a, b := in(l, drawn(is, uint64(n))), in(l, drawn(is, uint64(n+1000)))
		same(t, "drawn", l, a, true)
		same(t, "drawn", a, b, true)
	}
}

// 13.6: events of one level are independent, each of a later one depends on one of the level ahead; of each goroutine
// there is at most one in a level; traces that are Same have the same levels.
func TestFoata(t *testing.T) {
	for n, l := range append(traces(t, 80), long()...) {
		levels, _ := canon.Levels(l)
		places := 0
		for k, level := range levels {
			places += len(level)
			for at, j := range level {
				if at > 0 && l[level[at-1]].Go >= l[j].Go {
					t.Errorf("%d: level %d is not by goroutines: %v", n, k, level)
				}
				if slices.ContainsFunc(level, func(i int) bool { return i != j && dependent(l[i], l[j]) }) {
					t.Errorf("%d: level %d: %v are not independent", n, k, level)
				}
				if k > 0 && !slices.ContainsFunc(levels[k-1], func(i int) bool { return dependent(l[i], l[j]) }) {
					t.Errorf("%d: level %d: %d depends on none of %v", n, k, j, levels[k-1])
				}
			}
		}
		if height, _ := order.Height(l); places != len(l) || len(levels) != height {
			t.Errorf("%d: %d levels, not %d: %v", n, len(levels), height, levels)
		}
		other := in(l, drawn(happens(l), uint64(n)))
		again, _ := canon.Levels(other)
		if !slices.EqualFunc(levels, again, func(a, b []int) bool { return slices.Equal(in(l, a), in(other, b)) }) {
			t.Errorf("%d: not the same levels: %v, %v", n, levels, again)
		}
	}
}

// 13.4, 13.5: traces that are Same have as many orders.
func TestCountSame(t *testing.T) {
	for n, l := range traces(t, 40) {
		a, _ := canon.Count(l, 10000)
		b, _ := canon.Count(in(l, drawn(happens(l), uint64(n))), 10000)
		if a != b {
			t.Errorf("%d: %d and %d orders", n, a, b)
		}
	}
}
