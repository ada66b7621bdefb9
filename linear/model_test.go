package linear_test

import (
	"slices"
	"testing"

	"scarab/api"
	"scarab/linear"
)

// The words of the chapter, worked out anew: all orders of a history are gone through.

// isOrder tells whether a list is an order of a history.
func isOrder(h []api.Call, order []int) bool {
	count := make([]int, len(h))
	for _, i := range order {
		if i < 0 || i >= len(h) {
			return false
		}
		count[i]++
	}
	for i, n := range count {
		if n > 1 || n == 0 && h[i].End != -1 {
			return false
		}
	}
	return true
}

// fits tells whether an order fits, and what is in the thing behind it.
func fits(kind int, h []api.Call, order []int) (bool, []int64) {
	x, is := newThing(kind), true
	for _, i := range order {
		out, empty := x.do(h[i])
		is = is && (h[i].End == -1 || out == h[i].Out && empty == h[i].Empty)
	}
	return is, x.vals
}

// keepsTime tells whether an order keeps time.
func keepsTime(h []api.Call, order []int) bool {
	for i, a := range h {
		for j, b := range h {
			n, m := slices.Index(order, i), slices.Index(order, j)
			if a.End != -1 && a.End < b.Begin && n >= 0 && m >= 0 && n > m {
				return false
			}
		}
	}
	return true
}

// keepsTurns tells whether an order keeps turns.
func keepsTurns(h []api.Call, order []int) bool {
	for n, i := range order {
		for _, j := range order[n+1:] {
			if h[i].Go == h[j].Go && h[i].Begin > h[j].Begin {
				return false
			}
		}
	}
	return true
}

// orders tells all lists of unlike places that are orders of a history.
func orders(h []api.Call, ahead []int, tell func(order []int)) {
	if isOrder(h, ahead) {
		tell(ahead)
	}
	for i := range slices.Backward(h) { // the last one first: what is first must be looked for
		if !slices.Contains(ahead, i) {
			orders(h, append(slices.Clone(ahead), i), tell)
		}
	}
}

// least are the first orders that fit and keep time, or turns; nil and false, where there is none.
func least(kind int, h []api.Call) (time, turns []int, isTime, isTurns bool) {
	orders(h, nil, func(order []int) {
		if is, _ := fits(kind, h, order); !is {
			return
		}
		if keepsTime(h, order) && (!isTime || slices.Compare(order, time) < 0) {
			time, isTime = order, true
		}
		if keepsTurns(h, order) && (!isTurns || slices.Compare(order, turns) < 0) {
			turns, isTurns = order, true
		}
	})
	return time, turns, isTime, isTurns
}

// compared asks that Linear and Turns tell what the words tell.
func compared(t *testing.T, kind int, h []api.Call) (bool, bool) {
	t.Helper()
	time, turns, isTime, isTurns := least(kind, h)
	if got, is, e := linear.Linear(kind, h); !slices.Equal(got, time) || is != isTime || e != api.OK {
		t.Errorf("Linear of kind %d, %v: %v %v %v, not %v %v", kind, h, got, is, e, time, isTime)
	}
	if got, is, e := linear.Turns(kind, h); !slices.Equal(got, turns) || is != isTurns || e != api.OK {
		t.Errorf("Turns of kind %d, %v: %v %v %v, not %v %v", kind, h, got, is, e, turns, isTurns)
	}
	return isTime, isTurns
}

// 26.2: what Linear and Turns tell of sampled histories is the first of all orders.
func TestWords(t *testing.T) {
	var told [5][3]int // by kind: linearisable, sequentially consistent alone, neither
	pending := 0
	histories(420, 6, func(kind int, h []api.Call) {
		isTime, isTurns := compared(t, kind, h)
		switch {
		case isTime:
			told[kind][0]++
		case isTurns:
			told[kind][1]++
		default:
			told[kind][2]++
		}
		if slices.ContainsFunc(h, func(c api.Call) bool { return c.End == -1 }) {
			pending++
		}
	})
	for _, kind := range kinds {
		if slices.Min(told[kind][:]) < 8 || pending < 100 {
			t.Errorf("told %v, %d with a pending one", told, pending)
		}
	}
}

// 26.2: the same of histories with as many operations as there may be.
func TestWordsLong(t *testing.T) {
	for seed := range uint64(3) {
		for _, kind := range kinds {
			compared(t, kind, history(seed+500, kind, 7, int(seed)))
		}
	}
	for _, kind := range kinds {
		compared(t, kind, history(900, kind, linear.MaxCalls, spun))
		compared(t, kind, full(kind))
	}
}

// 26.3: what Fits and Last tell of lists, most of them orders, is what the words say.
func TestOrderWords(t *testing.T) {
	var told [2][4]int // no, yes: an order, fits, keeps time, keeps turns
	seed := uint64(0)
	histories(300, linear.MaxCalls, func(kind int, h []api.Call) {
		seed++
		draw := draws(seed + 99)
		found, _, _ := linear.Linear(kind, h)
		turns, _, _ := linear.Turns(kind, h)
		for _, order := range append(shuffled(draw, h), found, turns) {
			is := [4]bool{isOrder(h, order)}
			e := api.ErrArg
			var last []int64
			if is[0] {
				is[1], last = fits(kind, h, order)
				is[2], is[3], e = keepsTime(h, order), keepsTurns(h, order), api.OK
			}
			a, b, c, got := linear.Fits(kind, h, order)
			if a != is[1] || b != is[2] || c != is[3] || got != e {
				t.Errorf("Fits of kind %d, %v, %v: %v %v %v %v, not %v %v", kind, h, order, a, b, c, got, is, e)
			}
			if l, got := linear.Last(kind, h, order); !slices.Equal(l, last) || got != e {
				t.Errorf("Last of kind %d, %v, %v: %v %v, not %v %v", kind, h, order, l, got, last, e)
			}
			for k, yes := range is {
				if yes {
					told[1][k]++
				} else if is[0] || k == 0 {
					told[0][k]++
				}
			}
		}
	})
	for k := range 4 {
		if min(told[0][k], told[1][k]) < 200 {
			t.Errorf("told %v", told)
		}
	}
}

// shuffled are lists of places: with all of them, without the last pending ones, with one left out, with one twice, with one
// that is none.
func shuffled(draw func(int) int, h []api.Call) [][]int {
	all := make([]int, len(h))
	for i := range all {
		j := draw(i + 1)
		all[i], all[j] = all[j], i
	}
	some := slices.DeleteFunc(slices.Clone(all), func(i int) bool { return h[i].End == -1 && draw(2) == 0 })
	began := slices.SortedFunc(slices.Values(all), func(i, j int) int { return h[i].Begin - h[j].Begin })
	l := [][]int{all, some, began, append(slices.Clone(all), draw(len(h)+2)-1)}
	if len(h) > 0 {
		l = append(l, all[1:])
	}
	return l
}
