package order_test

import (
	"slices"
	"testing"

	"scarab/api"
	"scarab/clock"
	"scarab/order"
)

// befores tells of each two places what Before tells.
func befores(t *testing.T, l []api.Event) [][]bool {
	t.Helper()
	is := make([][]bool, len(l))
	for i := range l {
		for j := range l {
			got, e := order.Before(l, i, j)
			if e != api.OK {
				t.Fatal(e)
			}
			is[i] = append(is[i], got)
		}
	}
	return is
}

// 12.4: i happens before j just as their clocks stand, both ways that the chapter tells it; no two have the same clock.
func TestByClocks(t *testing.T) {
	for n, l := range traces(t, 40) {
		clocks, _ := order.Clocks(l)
		is := befores(t, l)
		for i := range l {
			g := l[i].Go
			for j := range l {
				how, e := clock.Cmp(clocks[i], clocks[j])
				if e != api.OK || (how == 0) != (i == j) {
					t.Errorf("%d: %v and %v: %d %v", n, clocks[i], clocks[j], how, e)
				}
				if is[i][j] != (i < j && how <= 0) || is[i][j] != (i < j && clocks[i][g] <= clocks[j][g]) {
					t.Errorf("%d: %d and %d: %v, by clocks %v and %v", n, i, j, is[i][j], clocks[i], clocks[j])
				}
			}
		}
	}
}

// 12.5: to happen before goes on, is no ring, and follows from the edges; the events of a goroutine are a chain.
func TestBeforeGoesOn(t *testing.T) {
	for n, l := range traces(t, 30) {
		is := befores(t, l)
		edges, _ := order.Edges(l)
		follows := make([][]bool, len(l))
		for i := range l {
			follows[i] = make([]bool, len(l))
		}
		for _, pair := range slices.Backward(edges) {
			follows[pair[0]][pair[1]] = true
			for k := range l {
				follows[pair[0]][k] = follows[pair[0]][k] || follows[pair[1]][k]
			}
		}
		for i := range l {
			for j := range l {
				if is[i][j] && (i >= j || is[j][i]) || is[i][j] != follows[i][j] || i < j && l[i].Go == l[j].Go && !is[i][j] {
					t.Errorf("%d: %d and %d: %v", n, i, j, is[i][j])
				}
				for k := range l {
					if is[i][j] && is[j][k] && !is[i][k] {
						t.Errorf("%d: %d, %d and %d", n, i, j, k)
					}
				}
			}
		}
	}
}

// 12.6: the order as it is is linear; Closed is a cut, and Closed of itself; a past with its event is a cut.
func TestCutLaws(t *testing.T) {
	for n, l := range append(traces(t, 40), long()...) {
		if is, e := order.Linear(l, first(len(l))); !is || e != api.OK {
			t.Errorf("%d: not linear as it is: %v", n, e)
		}
		for i := 0; i < len(l); i += 1 + len(l)/20 {
			closed, _ := order.Closed(l, []int{i, len(l) - 1 - i})
			is, e := order.Cut(l, closed)
			again, _ := order.Closed(l, closed)
			if !is || e != api.OK || !slices.Equal(again, closed) || !slices.Contains(closed, i) {
				t.Errorf("%d: Closed of %d: %v %v %v", n, i, closed, is, again)
			}
			past, _ := order.Past(l, i)
			is, e = order.Cut(l, append(past, i))
			alone, _ := order.Closed(l, []int{i})
			if !is || e != api.OK || !slices.Equal(alone, append(past, i)) {
				t.Errorf("%d: the past of %d is no cut: %v %v %v", n, i, past, is, e)
			}
		}
	}
}

// 12.7: Height is at most the number of events, and at least that of each goroutine's.
func TestHeightBounds(t *testing.T) {
	for n, l := range append(traces(t, 100), long()...) {
		var gos [api.MaxGos]int
		for _, x := range l {
			gos[x.Go]++
		}
		if h, e := order.Height(l); h > len(l) || h < slices.Max(gos[:]) || e != api.OK {
			t.Errorf("%d: %d of %d events, %v: %v", n, h, len(l), gos, e)
		}
	}
}

// 12.8: independent neighbours that are changed about have the same clocks at each other's places, and all else stays.
func TestNeighbours(t *testing.T) {
	pairs := 0
	for n, l := range append(traces(t, 100), long()[3]) {
		was, _ := order.Clocks(l)
		height, _ := order.Height(l)
		edges, _ := order.Edges(l)
		for i := 0; i+1 < len(l); i++ {
			if dependent(l[i], l[i+1]) {
				continue
			}
			pairs++
			other, want := slices.Clone(l), slices.Clone(was)
			other[i], other[i+1] = other[i+1], other[i]
			want[i], want[i+1] = want[i+1], want[i]
			if got, e := order.Clocks(other); !slices.Equal(got, want) || e != api.OK {
				t.Errorf("%d, at %d: %v %v, not %v", n, i, got, e, want)
			}
			if got, e := order.Height(other); got != height || e != api.OK {
				t.Errorf("%d, at %d: Height %d %v, not %d", n, i, got, e, height)
			}
			if got, e := order.Edges(other); len(got) != len(edges) || e != api.OK {
				t.Errorf("%d, at %d: Edges %v %v, not %v", n, i, got, e, edges)
			}
		}
	}
	if pairs < 300 {
		t.Errorf("only %d pairs", pairs)
	}
}
