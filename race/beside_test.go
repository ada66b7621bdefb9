package race_test

import (
	"slices"
	"testing"

	"scarab/api"
	"scarab/order"
	"scarab/race"
)

// clocked asks for what Clocked tells.
func clocked(t *testing.T, what string, l []api.Event, i, j int, want bool) {
	t.Helper()
	if is, e := race.Clocked(l, i, j); is != want || e != api.OK {
		t.Errorf("%s: Clocked of %d, %d: %v %v", what, i, j, is, e)
	}
}

// beside asks for what Beside tells; no order: that there is none.
func beside(t *testing.T, what string, l []api.Event, i, j int, want ...int) {
	t.Helper()
	if way, is, e := race.Beside(l, i, j); !slices.Equal(way, want) || is != (len(want) > 0) || e != api.OK {
		t.Errorf("%s: Beside of %d, %d: %v %v %v, not %v", what, i, j, way, is, e, want)
	}
}

// 14.2, 14.3: pairs that are written out.
func TestBesideWritten(t *testing.T) {
	l := []api.Event{store(1, 0), store(2, 0), store(3, 0)}
	clocked(t, "three", l, 0, 1, true)
	clocked(t, "three", l, 1, 2, true)
	clocked(t, "three", l, 0, 2, false)
	clocked(t, "three", l, 1, 0, false)
	clocked(t, "three", l, 1, 1, false)
	beside(t, "three", l, 0, 1, 0, 1, 2)
	beside(t, "three", l, 1, 2, 0, 1, 2)
	beside(t, "three", l, 0, 2)
	beside(t, "three", l, 1, 0)
	beside(t, "three", l, 1, 1)
	// 0 yields; 1 stores v0; 2 loads v1; 3 stores v1; 1 stores v2; 2 loads v0; 4 yields
	l = []api.Event{event(0), store(1, 0), load(2, 1), store(3, 1), store(1, 2), load(2, 0), event(4)}
	beside(t, "with others", l, 1, 5, 2, 1, 5, 0, 3, 4, 6)
	clocked(t, "with others", l, 1, 5, true)
	// independent ones, and those of one goroutine, stand side by side too, but are no race
	beside(t, "independent", l, 0, 6, 0, 6, 1, 2, 3, 4, 5)
	beside(t, "independent, later", l, 0, 5, 1, 2, 0, 5, 3, 4, 6)
	beside(t, "independent, the other way", l, 6, 0)
	beside(t, "one goroutine", l, 1, 4, 1, 4, 0, 2, 3, 5, 6)
	beside(t, "one goroutine, over another one's", l, 2, 5, 1, 2, 5, 0, 3, 4, 6)
	clocked(t, "independent", l, 0, 6, false)
	clocked(t, "one goroutine", l, 1, 4, false)
	clocked(t, "one goroutine", l, 2, 5, false)
	// it happens before by one between alone
	l = []api.Event{store(1, 0), load(2, 0), store(2, 1), load(3, 1), store(3, 0)}
	clocked(t, "by one between", l, 0, 4, false)
	clocked(t, "by one between", l, 1, 4, false)
	clocked(t, "by one between", l, 0, 3, false)
	clocked(t, "next", l, 2, 3, true)
	beside(t, "by one between", l, 0, 4)
	beside(t, "by one between", l, 1, 4)
	beside(t, "by one between", l, 0, 3)
	beside(t, "next", l, 2, 3, 0, 1, 2, 3, 4)
}

// 14.2: Clocked, by the chapter's words.
func TestClocked(t *testing.T) {
	var told [2]int
	for _, x := range plays(t, 50) {
		l, is := x.t, happens(x.t)
		for i := range l {
			for j := range l {
				want := i < j && l[i].Go != l[j].Go && dependent(l[i], l[j])
				for k := range j {
					want = want && !(k != i && dependent(l[k], l[j]) && is[i][k])
				}
				clocked(t, "by words", l, i, j, want)
				if want {
					told[1]++
				} else if i < j && l[i].Go != l[j].Go && dependent(l[i], l[j]) {
					told[0]++
				}
			}
		}
	}
	if min(told[0], told[1]) < 500 {
		t.Errorf("told %v", told)
	}
}

// ordered is the order that the chapter tells to be made of two places.
func ordered(is [][]bool, i, j int) []int {
	var ahead, behind []int
	for k := range is {
		switch {
		case k == i || k == j:
		case is[k][i] || is[k][j]:
			ahead = append(ahead, k)
		default:
			behind = append(behind, k)
		}
	}
	return slices.Concat(ahead, []int{i, j}, behind)
}

// 14.3: Beside, by the chapter's words; what it tells is an order that keeps what happens before what.
func TestBeside(t *testing.T) {
	var told [2]int
	for _, x := range plays(t, 40) {
		is := happens(x.t)
		for i := range x.t {
			for j := range x.t {
				var want []int
				if i < j && !between(is, i, j) {
					want = ordered(is, i, j)
					linear, e := order.Linear(x.t, want)
					if !linear || e != api.OK {
						t.Errorf("%v of %d, %d: %v %v", want, i, j, linear, e)
					}
					told[1]++
				} else if i < j {
					told[0]++
				}
				beside(t, "by words", x.t, i, j, want...)
			}
		}
	}
	if min(told[0], told[1]) < 500 {
		t.Errorf("told %v", told)
	}
}

// orders hands out all orders of a list's members.
func orders(l []int, at int, told func([]int)) {
	if at == len(l) {
		told(l)
	}
	for i := at; i < len(l); i++ {
		l[at], l[i] = l[i], l[at]
		orders(l, at+1, told)
		l[at], l[i] = l[i], l[at]
	}
}

// 14.3: Beside, against all orders of short traces that keep what happens before what.
func TestBesideAll(t *testing.T) {
	for _, x := range plays(t, 30) {
		l := x.t[:min(len(x.t), 6)]
		var side [6][6]bool
		is := happens(l)
		orders(first(len(l)), 0, func(way []int) {
			for k, j := range way {
				if slices.ContainsFunc(way[k+1:], func(i int) bool { return is[i][j] }) {
					return
				}
			}
			for k := 1; k < len(way); k++ {
				side[way[k-1]][way[k]] = true
			}
		})
		for i := range l {
			for j := range l {
				if _, got, e := race.Beside(l, i, j); got != (i < j && side[i][j]) || e != api.OK {
					t.Errorf("%d, %d of %v: %v %v", i, j, l, got, e)
				}
			}
		}
	}
}

// 14.2, 14.3: as many events as there may be.
func TestBesideLong(t *testing.T) {
	for n, x := range longest() {
		is := happens(x.t)
		for _, pair := range [][2]int{{0, 1}, {0, 255}, {254, 255}, {100, 120}, {200, 201}, {250, 255}} {
			i, j := pair[0], pair[1]
			race := edge(is, i, j) && x.t[i].Go != x.t[j].Go
			clocked(t, "long", x.t, i, j, race)
			var want []int
			if !between(is, i, j) {
				want = ordered(is, i, j)
			}
			beside(t, "long", x.t, i, j, want...)
			if n == 1 && race != (j == i+1) {
				t.Errorf("stores by turns: %d and %d: %v", i, j, race)
			}
		}
	}
}
