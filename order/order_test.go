package order_test

import (
	"slices"
	"testing"

	"scarab/api"
	"scarab/order"
)

// 12.1, 12.2: the chapter's example 1, but for Closed.
func TestExample(t *testing.T) {
	if l, e := order.Edges(example); !slices.Equal(l, [][2]int{{0, 2}, {1, 2}}) || e != api.OK {
		t.Errorf("Edges: %v %v", l, e)
	}
	if l, e := order.Clocks(example); !slices.Equal(l, []api.Clock{{1, 0}, {0, 1}, {2, 1}}) || e != api.OK {
		t.Errorf("Clocks: %v %v", l, e)
	}
	if is, e := order.Apart(example, 0, 1); !is || e != api.OK {
		t.Errorf("Apart: %v %v", is, e)
	}
	if l, e := order.Lasts(example); !slices.Equal(l, []int{2}) || e != api.OK {
		t.Errorf("Lasts: %v %v", l, e)
	}
	if n, e := order.Height(example); n != 2 || e != api.OK {
		t.Errorf("Height: %v %v", n, e)
	}
}

// 12.1, 12.2: a trace in which one happens before another by one between alone, written out.
func TestWritten(t *testing.T) {
	// 1 stores v0; 2 loads it; 3 loads it; 2 stores v1; 4 loads v1; 5 yields; 3 loads v1
	l := []api.Event{event(1, w(1, 0)), event(2, r(1, 0)), event(3, r(1, 0)), event(2, w(1, 1)), event(4, r(1, 1)), event(5), event(3, r(1, 1))}
	edges := [][2]int{{0, 1}, {0, 2}, {1, 3}, {2, 6}, {3, 4}, {3, 6}}
	if got, e := order.Edges(l); !slices.Equal(got, edges) || e != api.OK {
		t.Errorf("Edges: %v %v", got, e)
	}
	clocks := []api.Clock{{0, 1}, {0, 1, 1}, {0, 1, 0, 1}, {0, 1, 2}, {0, 1, 2, 0, 1}, {0, 0, 0, 0, 0, 1}, {0, 1, 2, 2}}
	if got, e := order.Clocks(l); !slices.Equal(got, clocks) || e != api.OK {
		t.Errorf("Clocks: %v %v", got, e)
	}
	pasts := [][]int{nil, {0}, {0}, {0, 1}, {0, 1, 3}, nil, {0, 1, 2, 3}}
	for i, want := range pasts {
		if got, e := order.Past(l, i); !slices.Equal(got, want) || e != api.OK {
			t.Errorf("Past of %d: %v %v", i, got, e)
		}
	}
	if got, e := order.Lasts(l); !slices.Equal(got, []int{4, 5, 6}) || e != api.OK {
		t.Errorf("Lasts: %v %v", got, e)
	}
	if n, e := order.Height(l); n != 4 || e != api.OK {
		t.Errorf("Height: %v %v", n, e)
	}
}

// 12.1, 12.2, R2: what is told of no events.
func TestNone(t *testing.T) {
	for _, l := range [][]api.Event{nil, {}} {
		clocks, e1 := order.Clocks(l)
		edges, e2 := order.Edges(l)
		lasts, e3 := order.Lasts(l)
		n, e4 := order.Height(l)
		if len(clocks)+len(edges)+len(lasts)+n != 0 || e1 != api.OK || e2 != api.OK || e3 != api.OK || e4 != api.OK {
			t.Errorf("%v %v, %v %v, %v %v, %v %v", clocks, e1, edges, e2, lasts, e3, n, e4)
		}
		if is, e := order.Before(l, 0, 0); is || e != api.ErrArg {
			t.Errorf("Before: %v %v", is, e)
		}
		if past, e := order.Past(l, 0); len(past) > 0 || e != api.ErrArg {
			t.Errorf("Past: %v %v", past, e)
		}
	}
}

// 12.1, 12.2: what is told of a whole trace, by the chapter's words.
func TestWhole(t *testing.T) {
	for n, l := range append(traces(t, 150), long()...) {
		is := happens(l)
		clocks := make([]api.Clock, len(l))
		high := make([]int, len(l))
		var edges [][2]int
		var lasts []int
		height := 0
		for i := range l {
			clocks[i][l[i].Go]++
			for k := range i {
				if is[k][i] {
					clocks[i][l[k].Go]++
					high[i] = max(high[i], high[k])
				}
			}
			high[i]++
			height = max(height, high[i])
			if !slices.Contains(is[i], true) {
				lasts = append(lasts, i)
			}
			for j := range l {
				between := func(k int) bool { return is[i][k] && is[k][j] }
				if is[i][j] && !slices.ContainsFunc(first(len(l)), between) {
					edges = append(edges, [2]int{i, j})
				}
			}
		}
		if got, e := order.Clocks(l); !slices.Equal(got, clocks) || e != api.OK {
			t.Errorf("%d: Clocks %v %v, not %v", n, got, e, clocks)
		}
		if got, e := order.Edges(l); !slices.Equal(got, edges) || e != api.OK {
			t.Errorf("%d: Edges %v %v, not %v", n, got, e, edges)
		}
		if got, e := order.Lasts(l); !slices.Equal(got, lasts) || e != api.OK {
			t.Errorf("%d: Lasts %v %v, not %v", n, got, e, lasts)
		}
		if got, e := order.Height(l); got != height || e != api.OK {
			t.Errorf("%d: Height %v %v, not %v", n, got, e, height)
		}
	}
}

// 12.1: Before, Apart and Past of all places, by the chapter's words.
func TestPlaces(t *testing.T) {
	var told [4]int
	for n, l := range traces(t, 60) {
		is := happens(l)
		for i := range l {
			var past []int
			for j := range l {
				apart := i != j && !is[i][j] && !is[j][i]
				if got, e := order.Before(l, i, j); got != is[i][j] || e != api.OK {
					t.Errorf("%d: Before %d, %d: %v %v", n, i, j, got, e)
				}
				if got, e := order.Apart(l, i, j); got != apart || e != api.OK {
					t.Errorf("%d: Apart %d, %d: %v %v", n, i, j, got, e)
				}
				if is[j][i] {
					past = append(past, j)
				}
				switch {
				case apart:
					told[0]++
				case is[i][j] && !dependent(l[i], l[j]):
					told[1]++
				case is[i][j]:
					told[2]++
				case i == j:
					told[3]++
				}
			}
			if got, e := order.Past(l, i); !slices.Equal(got, past) || e != api.OK {
				t.Errorf("%d: Past of %d: %v %v, not %v", n, i, got, e, past)
			}
		}
	}
	if slices.Min(told[:]) < 500 {
		t.Errorf("told %v", told)
	}
}

// 12.2: events that all depend, and events of goroutines that do not, as many as there may be.
func TestLong(t *testing.T) {
	ends := long()
	if n, e := order.Height(ends[0]); n != 43 || e != api.OK {
		t.Errorf("Height of six by turns: %v %v", n, e)
	}
	if l, e := order.Lasts(ends[0]); !slices.Equal(l, []int{250, 251, 252, 253, 254, 255}) || e != api.OK {
		t.Errorf("Lasts of six by turns: %v %v", l, e)
	}
	if n, e := order.Height(ends[1]); n != api.MaxSteps || e != api.OK {
		t.Errorf("Height of one alone: %v %v", n, e)
	}
	if l, e := order.Past(ends[1], 255); !slices.Equal(l, first(255)) || e != api.OK {
		t.Errorf("Past of the last one: %v %v", l, e)
	}
	if l, e := order.Clocks(ends[1]); l[255] != (api.Clock{3: api.MaxSteps}) || e != api.OK {
		t.Errorf("Clocks of one alone: %v %v", l[255], e)
	}
	if is, e := order.Before(ends[2], 0, 255); is != happens(ends[2])[0][255] || e != api.OK {
		t.Errorf("Before: %v %v", is, e)
	}
}
