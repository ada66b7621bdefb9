package order_test

import (
	"slices"
	"testing"

	"scarab/api"
	"scarab/order"
)

// 12.3: the chapter's example 2, and Closed of its example 1.
func TestCutExample(t *testing.T) {
	for _, x := range []struct {
		l    []int
		want bool
	}{{[]int{1, 0, 2}, true}, {[]int{2, 0, 1}, false}, {[]int{0, 1, 2}, true}, {[]int{0, 2, 1}, false}, {[]int{1, 2, 0}, false}, {[]int{2, 1, 0}, false}} {
		if is, e := order.Linear(example, x.l); is != x.want || e != api.OK {
			t.Errorf("Linear of %v: %v %v", x.l, is, e)
		}
	}
	for _, x := range []struct {
		l    []int
		want bool
	}{{nil, true}, {[]int{0}, true}, {[]int{1}, true}, {[]int{1, 0}, true}, {[]int{1, 1}, true}, {[]int{2}, false}, {[]int{2, 0}, false}, {[]int{1, 2}, false}, {[]int{2, 0, 1, 2}, true}} {
		if is, e := order.Cut(example, x.l); is != x.want || e != api.OK {
			t.Errorf("Cut of %v: %v %v", x.l, is, e)
		}
	}
	for _, x := range [][2][]int{{{2}, {0, 1, 2}}, {{1}, {1}}, {{1, 0, 1}, {0, 1}}, {{}, {}}, {nil, nil}, {{2, 2}, {0, 1, 2}}} {
		if got, e := order.Closed(example, x[0]); !slices.Equal(got, x[1]) || e != api.OK {
			t.Errorf("Closed of %v: %v %v", x[0], got, e)
		}
	}
}

// 12.3: of no events the order without a place is linear, and no places are a cut.
func TestCutNone(t *testing.T) {
	for _, l := range [][]api.Event{nil, {}} {
		for _, places := range [][]int{nil, {}} {
			linear, e1 := order.Linear(l, places)
			cut, e2 := order.Cut(l, places)
			closed, e3 := order.Closed(l, places)
			if !linear || !cut || len(closed) > 0 || e1 != api.OK || e2 != api.OK || e3 != api.OK {
				t.Errorf("%v %v, %v %v, %v %v", linear, e1, cut, e2, closed, e3)
			}
		}
	}
}

// keeps tells whether an order keeps what happens before what, by the chapter's words.
func keeps(is [][]bool, l []int) bool {
	for at, j := range l {
		for _, i := range l[at+1:] {
			if is[i][j] {
				return false
			}
		}
	}
	return true
}

// orders hands out all orders of a list's members.
func orders(l []int, at int, told func([]int)) {
	if at == len(l) {
		told(l)
	}
	for i := at; i < len(l); i++ {
		l[at], l[i] = l[i], l[at]
		orders(l, at+1, told)
		l[at], l[i] = l[i], l[at]
	}
}

// 12.3: Linear, of all orders of short traces.
func TestLinearAll(t *testing.T) {
	var told [2]int
	for _, l := range traces(t, 120) {
		l = l[:min(len(l), 5)]
		is := happens(l)
		orders(first(len(l)), 0, func(way []int) {
			want := keeps(is, way)
			if got, e := order.Linear(l, way); got != want || e != api.OK {
				t.Errorf("%v of %v: %v %v", way, l, got, e)
			}
			if want {
				told[1]++
			} else {
				told[0]++
			}
		})
	}
	if told[0] < 1000 || told[1] < 300 {
		t.Errorf("told %v", told)
	}
}

// drawn is an order that keeps what happens before what: each next one is drawn among those that may come.
func drawn(is [][]bool, seed uint64) []int {
	dice := numbers(seed, len(is))
	left := first(len(is))
	var way []int
	for _, n := range dice {
		var free []int
		for _, j := range left {
			if !slices.ContainsFunc(left, func(i int) bool { return is[i][j] }) {
				free = append(free, j)
			}
		}
		next := free[n%len(free)]
		way = append(way, next)
		left = slices.DeleteFunc(left, func(i int) bool { return i == next })
	}
	return way
}

// 12.3: Linear of drawn orders, and of such with two changed about.
func TestLinearDrawn(t *testing.T) {
	var told [2]int
	all := append(traces(t, 80), long()...)
	for n, l := range all {
		is := happens(l)
		way := drawn(is, uint64(n))
		if got, e := order.Linear(l, way); !got || e != api.OK {
			t.Errorf("%d: %v: %v %v", n, way, got, e)
		}
		for _, x := range numbers(uint64(n), 10) {
			if len(way) == 0 {
				continue
			}
			other := slices.Clone(way)
			a, b := x%len(way), (x%len(way)+1+x/1000%3)%len(way)
			other[a], other[b] = other[b], other[a]
			want := keeps(is, other)
			if got, e := order.Linear(l, other); got != want || e != api.OK {
				t.Errorf("%d: %v: %v %v", n, other, got, e)
			}
			if want {
				told[1]++
			} else {
				told[0]++
			}
		}
	}
	if min(told[0], told[1]) < 200 {
		t.Errorf("told %v", told)
	}
}

// closure is the least cut that has some places, by the chapter's words: they, and what happens before one of them.
func closure(is [][]bool, places []int) []int {
	var l []int
	for i := range is {
		if slices.Contains(places, i) || slices.ContainsFunc(places, func(j int) bool { return is[i][j] }) {
			l = append(l, i)
		}
	}
	return l
}

// closes asks of Cut and Closed of some places, and tells whether they are a cut.
func closes(t *testing.T, l []api.Event, is [][]bool, places []int) bool {
	t.Helper()
	want := closure(is, places)
	cut := slices.Equal(want, slices.Compact(slices.Sorted(slices.Values(places))))
	if got, e := order.Closed(l, places); !slices.Equal(got, want) || e != api.OK {
		t.Errorf("Closed of %v: %v %v, not %v", places, got, e, want)
	}
	if got, e := order.Cut(l, places); got != cut || e != api.OK {
		t.Errorf("Cut of %v: %v %v", places, got, e)
	}
	return cut
}

// 12.3: Cut and Closed, of all sets of places of short traces.
func TestCutAll(t *testing.T) {
	var told [2]int
	for _, l := range traces(t, 60) {
		l = l[:min(len(l), 6)]
		is := happens(l)
		for bits := range 1 << len(l) {
			var places []int
			for i := range l {
				if bits>>i&1 == 1 {
					places = append(places, i)
				}
			}
			if closes(t, l, is, places) {
				told[1]++
			} else {
				told[0]++
			}
		}
	}
	if min(told[0], told[1]) < 500 {
		t.Errorf("told %v", told)
	}
}

// 12.3: Cut and Closed, of drawn places in any order, some twice.
func TestCutDrawn(t *testing.T) {
	cuts := 0
	for n, l := range append(traces(t, 80), long()...) {
		is := happens(l)
		for k := range 8 {
			places := numbers(uint64(n*10+k), k)
			if len(l) == 0 {
				places = nil
			}
			for i := range places {
				places[i] %= len(l)
			}
			closes(t, l, is, places)
			whole := append(closure(is, places), places...)
			slices.Reverse(whole)
			if len(whole) <= api.MaxSteps && closes(t, l, is, whole) {
				cuts++
			}
		}
	}
	if cuts < 1000 {
		t.Errorf("only %d cuts", cuts)
	}
}
