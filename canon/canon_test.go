package canon_test

import (
	"cmp"
	"slices"
	"testing"

	"scarab/api"
	"scarab/canon"
)

// formed asks for the Form of a trace.
func formed(t *testing.T, what string, l []api.Event, want ...int) {
	t.Helper()
	if got, e := canon.Form(l); !slices.Equal(got, want) || e != api.OK {
		t.Errorf("%s: Form: %v %v, not %v", what, got, e, want)
	}
}

// levelled asks for the Levels of a trace.
func levelled(t *testing.T, what string, l []api.Event, want ...[]int) {
	t.Helper()
	if got, e := canon.Levels(l); !slices.EqualFunc(got, want, slices.Equal) || e != api.OK {
		t.Errorf("%s: Levels: %v %v, not %v", what, got, e, want)
	}
}

// 13.1: the chapter's example, and what is told of no events.
func TestExample(t *testing.T) {
	formed(t, "apart", apart, 1, 0)
	levelled(t, "apart", apart, []int{1, 0})
	// the goroutine 1 stores ahead of the goroutine 0, and both stores depend on each other
	formed(t, "chained", chained, 0, 1)
	levelled(t, "chained", chained, []int{0}, []int{1})
	for _, l := range [][]api.Event{nil, {}} {
		formed(t, "none", l)
		levelled(t, "none", l)
	}
}

// 13.1: traces that are written out.
func TestWritten(t *testing.T) {
	formed(t, "net", net, 7, 0, 1, 3, 2, 6, 4, 5)
	levelled(t, "net", net, []int{7, 0, 5}, []int{1, 2}, []int{3}, []int{6, 4})
	// what the goroutine 5 does comes first where the goroutine 0 must wait for it
	wait := []api.Event{event(5, w(1, 0)), event(4), event(5, w(1, 1)), event(0, r(1, 1)), event(3)}
	formed(t, "wait", wait, 4, 1, 0, 2, 3)
	levelled(t, "wait", wait, []int{4, 1, 0}, []int{2}, []int{3})
	turns := []api.Event{event(1), event(0), event(1), event(0)}
	formed(t, "turns", turns, 1, 3, 0, 2)
	levelled(t, "turns", turns, []int{1, 0}, []int{3, 2})
	// two that load depend on the store alone
	loads := []api.Event{event(2, w(1, 0)), event(1, r(1, 0)), event(0, r(1, 0))}
	formed(t, "loads", loads, 0, 2, 1)
	levelled(t, "loads", loads, []int{0}, []int{2, 1})
}

// 13.1: Form, by the chapter's words.
func TestForm(t *testing.T) {
	moved := 0
	for n, l := range append(traces(t, 100), long()[2:]...) {
		is := happens(l)
		left := first(len(l))
		var want []int
		for range l {
			next := slices.MinFunc(free(is, left), func(a, b int) int { return cmp.Compare(l[a].Go, l[b].Go) })
			want = append(want, next)
			left = slices.DeleteFunc(left, func(i int) bool { return i == next })
		}
		got, e := canon.Form(l)
		if !slices.Equal(got, want) || e != api.OK {
			t.Errorf("%d: %v %v, not %v", n, got, e, want)
		}
		if !slices.IsSorted(want) {
			moved++
		}
	}
	if moved < 100 {
		t.Errorf("only %d are in another order", moved)
	}
}

// 13.1: Levels, by the chapter's words.
func TestLevels(t *testing.T) {
	wide := 0
	for n, l := range append(traces(t, 100), long()[2:]...) {
		is := happens(l)
		level := make([]int, len(l))
		var want [][]int
		for j := range l {
			for i := range j {
				if is[i][j] {
					level[j] = max(level[j], level[i]+1)
				}
			}
			for len(want) <= level[j] {
				want = append(want, nil)
			}
			want[level[j]] = append(want[level[j]], j)
		}
		for k := range want {
			slices.SortFunc(want[k], func(a, b int) int { return cmp.Compare(l[a].Go, l[b].Go) })
			if len(want[k]) > 2 {
				wide++
			}
		}
		got, e := canon.Levels(l)
		if !slices.EqualFunc(got, want, slices.Equal) || e != api.OK {
			t.Errorf("%d: %v %v, not %v", n, got, e, want)
		}
	}
	if wide < 50 {
		t.Errorf("only %d levels have more than two events", wide)
	}
}

// 13.1: as many events as there may be, of goroutines that have nothing to do with each other, and of one alone.
func TestLong(t *testing.T) {
	ends := long()
	form, e := canon.Form(ends[0])
	if e != api.OK || !slices.IsSortedFunc(form, func(a, b int) int {
		return cmp.Or(cmp.Compare(ends[0][a].Go, ends[0][b].Go), cmp.Compare(a, b))
	}) {
		t.Errorf("Form of six by turns: %v %v", form, e)
	}
	levels, e := canon.Levels(ends[0])
	if len(levels) != 43 || e != api.OK || !slices.Equal(levels[0], []int{5, 4, 3, 2, 1, 0}) || !slices.Equal(levels[42], []int{255, 254, 253, 252}) {
		t.Errorf("Levels of six by turns: %v %v", levels, e)
	}
	formed(t, "one alone", ends[1], first(api.MaxSteps)...)
	if levels, e := canon.Levels(ends[1]); len(levels) != api.MaxSteps || !slices.Equal(levels[255], []int{255}) || e != api.OK {
		t.Errorf("Levels of one alone: %v %v", levels, e)
	}
}

// 13.2: Apply, of all orders of short traces.
func TestApplyAll(t *testing.T) {
	var told [2]int
	for _, l := range traces(t, 100) {
		l = l[:min(len(l), 5)]
		is := happens(l)
		orders(first(len(l)), 0, func(way []int) {
			want, fault := in(l, way), api.OK
			if !keeps(is, way) {
				want, fault = nil, api.ErrArg
			}
			if got, e := canon.Apply(l, way); !slices.Equal(got, want) || e != fault {
				t.Errorf("%v of %v: %v %v", way, l, got, e)
			}
			told[fault]++
		})
	}
	if min(told[0], told[1]) < 300 {
		t.Errorf("told %v", told)
	}
}

// 13.2: Apply, of drawn orders, and of such with two changed about.
func TestApplyDrawn(t *testing.T) {
	var told [2]int
	for n, l := range append(traces(t, 60), long()...) {
		is := happens(l)
		way := drawn(is, uint64(n))
		if got, e := canon.Apply(l, way); !slices.Equal(got, in(l, way)) || e != api.OK {
			t.Errorf("%d: %v: %v %v", n, way, got, e)
		}
		for _, x := range numbers(uint64(n), 8) {
			if len(way) < 2 {
				continue
			}
			other := slices.Clone(way)
			a, b := x%len(way), (x%len(way)+1+x/1000%2)%len(way)
			other[a], other[b] = other[b], other[a]
			want, fault := in(l, other), api.OK
			if !keeps(is, other) {
				want, fault = nil, api.ErrArg
			}
			if got, e := canon.Apply(l, other); !slices.Equal(got, want) || e != fault {
				t.Errorf("%d: %v: %v %v", n, other, got, e)
			}
			told[fault]++
		}
	}
	if min(told[0], told[1]) < 200 {
		t.Errorf("told %v", told)
	}
}
