package linear_test

import (
	"math"
	"slices"
	"testing"

	"scarab/api"
	"scarab/linear"
)

// none stands for no order.
var none = []int{-1}

// found asks for the orders that Linear and Turns tell.
func found(t *testing.T, what string, kind int, h []api.Call, time, turns []int) {
	t.Helper()
	for k, f := range []func(int, []api.Call) ([]int, bool, api.Errno){linear.Linear, linear.Turns} {
		want := [][]int{time, turns}[k]
		is := !slices.Equal(want, none)
		if !is {
			want = nil
		}
		if got, ok, e := f(kind, h); !slices.Equal(got, want) || ok != is || e != api.OK {
			t.Errorf("%s, call %d: %v %v %v, not %v %v", what, k, got, ok, e, want, is)
		}
	}
}

// 26.2: the examples.
func TestExamples(t *testing.T) {
	const register, queue, stack = api.KindRegister, api.KindQueue, api.KindStack
	found(t, "a read within a write", register, []api.Call{write(0, 1, 0, 3), read(1, 0, 1, 2)}, []int{1, 0}, []int{1, 0})
	found(t, "a read behind a write", register, []api.Call{write(0, 1, 0, 3), read(1, 0, 4, 5)}, none, []int{1, 0})
	found(t, "by one goroutine", register, []api.Call{write(0, 1, 0, 3), read(0, 0, 4, 5)}, none, none)
	h := []api.Call{put(0, 1, 0, 1), put(0, 2, 2, 3), take(0, 2, 4, 5)}
	found(t, "a queue", queue, h, none, none)
	found(t, "a stack", stack, h, []int{0, 1, 2}, []int{0, 1, 2})
	for _, kind := range []int{queue, stack} {
		found(t, "a pending put", kind, []api.Call{put(0, 7, 0, -1), take(1, 7, 1, 2)}, []int{0, 1}, []int{0, 1})
	}
}

// 26.2: registers and counters.
func TestNumbers(t *testing.T) {
	const register, counter = api.KindRegister, api.KindCounter
	for _, kind := range []int{register, counter} {
		found(t, "nothing", kind, nil, nil, nil)
		found(t, "0 at first", kind, []api.Call{read(0, 0, 0, 1)}, []int{0}, []int{0})
		found(t, "1 at first", kind, []api.Call{read(0, 1, 0, 1)}, none, none)
		found(t, "a pending read alone", kind, []api.Call{read(0, 0, 0, -1)}, nil, nil)
	}
	found(t, "the later write counts", register, []api.Call{write(0, 5, 0, 1), write(0, 6, 2, 3), read(0, 6, 4, 5)}, []int{0, 1, 2}, []int{0, 1, 2})
	found(t, "both writes at one time", register, []api.Call{write(0, 5, 0, 3), write(1, 6, 1, 2), read(2, 5, 4, 5)}, []int{1, 0, 2}, []int{0, 2, 1})
	found(t, "two reads turn the writes", register, []api.Call{write(0, 5, 0, 9), write(1, 6, 1, 8), read(2, 6, 2, 3), read(2, 5, 4, 5)}, []int{1, 2, 0, 3}, []int{1, 2, 0, 3})
	found(t, "two readers that tell otherwise", register, []api.Call{write(0, 5, 0, 9), write(1, 6, 1, 8), read(2, 6, 2, 6), read(2, 5, 10, 11), read(3, 5, 3, 7), read(3, 6, 12, 13)}, none, none)
	found(t, "a pending write that is seen", register, []api.Call{write(0, 5, 0, -1), read(1, 0, 1, 2), read(1, 5, 3, 4)}, []int{1, 0, 2}, []int{1, 0, 2})
	found(t, "a pending write that is not", register, []api.Call{write(0, 5, 0, -1), read(1, 0, 1, 2), read(1, 0, 3, 4)}, []int{1, 2}, []int{1, 2})
	found(t, "a pending write that is too late", register, []api.Call{read(1, 5, 1, 2), write(0, 5, 3, -1)}, none, []int{1, 0})
	found(t, "a pending one ahead of the others, if that may be", register, []api.Call{write(0, 0, 5, -1), read(1, 0, 6, 7)}, []int{0, 1}, []int{0, 1})
	found(t, "an end that is above a pending one's begin", register, []api.Call{read(0, 0, 1, 9), read(1, 0, 2, -1)}, []int{0}, []int{0})
	found(t, "two pending ones", register, []api.Call{read(2, 0, 4, -1), write(0, 5, 1, -1), read(1, 5, 2, 3)}, []int{1, 2}, []int{0, 1, 2})
	found(t, "sums", counter, []api.Call{add(0, 5, 0, 9), add(1, -2, 1, 8), read(2, -2, 2, 3), read(3, 3, 10, 11)}, []int{1, 2, 0, 3}, []int{1, 2, 0, 3})
	found(t, "wrap-round", counter, []api.Call{add(0, math.MaxInt64, 0, 1), add(0, 1, 2, 3), read(0, math.MinInt64, 4, 5)}, []int{0, 1, 2}, []int{0, 1, 2})
	found(t, "a sum that is none", counter, []api.Call{add(0, 5, 0, 1), add(1, 2, 2, 3), read(2, 2, 4, 5)}, none, []int{1, 2, 0})
	found(t, "a write does not add", register, []api.Call{write(0, 5, 0, 1), write(0, 2, 2, 3), read(0, 7, 4, 5)}, none, none)
}

// 26.2: queues and stacks.
func TestHeaps(t *testing.T) {
	const queue, stack = api.KindQueue, api.KindStack
	for _, kind := range []int{queue, stack} {
		found(t, "nothing", kind, nil, nil, nil)
		found(t, "a take of nothing", kind, []api.Call{bare(0, 0, 1)}, []int{0}, []int{0})
		found(t, "a take of 0 where nothing is", kind, []api.Call{take(0, 0, 0, 1)}, none, none)
		found(t, "a take of nothing behind a put", kind, []api.Call{put(0, 0, 0, 1), bare(1, 2, 3)}, none, []int{1, 0})
		found(t, "a take of 0", kind, []api.Call{put(0, 0, 0, 1), take(1, 0, 2, 3), bare(1, 4, 5)}, []int{0, 1, 2}, []int{0, 1, 2})
		found(t, "a put at the same time", kind, []api.Call{bare(0, 0, 3), put(1, 4, 1, 2), take(0, 4, 4, 5)}, []int{0, 1, 2}, []int{0, 1, 2})
		found(t, "taken twice", kind, []api.Call{put(0, 4, 0, 1), take(1, 4, 2, 6), take(2, 4, 3, 7)}, none, none)
		found(t, "a pending take", kind, []api.Call{put(0, 4, 0, 1), take(1, 0, 2, -1), bare(2, 3, 4)}, []int{0, 1, 2}, []int{0, 1, 2})
		found(t, "a pending take of nothing", kind, []api.Call{take(1, 0, 0, -1), put(0, 4, 1, 2), take(2, 4, 3, 4)}, []int{0, 1, 2}, []int{0, 1, 2})
		found(t, "a pending put that is not needed", kind, []api.Call{put(0, 4, 0, 1), take(1, 4, 3, 4), put(2, 6, 5, -1)}, []int{0, 1}, []int{0, 1})
		found(t, "another value", kind, []api.Call{put(0, 4, 0, 1), take(1, 5, 2, 3)}, none, none)
	}
	two := []api.Call{put(0, 1, 0, 3), put(1, 2, 1, 2), take(0, 2, 4, 5), take(1, 1, 6, 7)}
	found(t, "puts at one time, a queue", queue, two, []int{1, 0, 2, 3}, []int{0, 1, 3, 2})
	found(t, "puts at one time, a stack", stack, two, []int{0, 1, 2, 3}, []int{0, 1, 2, 3})
	late := []api.Call{put(0, 1, 0, 1), put(1, 2, 2, 3), take(1, 2, 4, 5), take(0, 1, 6, 7)}
	found(t, "puts one behind the other, a queue", queue, late, none, []int{0, 1, 3, 2})
	found(t, "puts one behind the other, a stack", stack, late, []int{0, 1, 2, 3}, []int{0, 1, 2, 3})
	found(t, "in turn", queue, []api.Call{put(0, 1, 0, 1), put(0, 2, 2, 3), put(0, 3, 4, 5), take(1, 1, 6, 7), take(1, 2, 8, 9), take(1, 3, 10, 11), bare(1, 12, 13)}, []int{0, 1, 2, 3, 4, 5, 6}, []int{0, 1, 2, 3, 4, 5, 6})
	found(t, "places in any order", queue, []api.Call{take(1, 2, 8, 9), put(0, 2, 2, 3), take(1, 1, 6, 7), put(0, 1, 0, 1)}, []int{3, 1, 2, 0}, []int{3, 1, 2, 0})
}

// 26.2: where each way is tried, it ends soon: eight puts or takes at one time, of which one can not be.
func TestHard(t *testing.T) {
	for _, kind := range []int{api.KindQueue, api.KindStack} {
		for puts := range linear.MaxCalls {
			// no goroutine may have two at one time: six stand side by side, two behind them
			var h []api.Call
			for i := range linear.MaxCalls {
				c := put(i%api.MaxGos, int64(i), i, 100+i)
				if i >= puts {
					c = take(i%api.MaxGos, int64(i), i, 100+i)
				}
				if i >= api.MaxGos {
					c.Begin, c.End = 200+i, 300+i
				}
				h = append(h, c)
			}
			_, is, e := linear.Linear(kind, h)
			_, turns, f := linear.Turns(kind, h)
			if is || turns || e != api.OK || f != api.OK {
				t.Errorf("kind %d, %d puts: %v %v, %v %v", kind, puts, is, e, turns, f)
			}
		}
	}
}

// told asks what Fits and Last tell of an order.
func told(t *testing.T, what string, kind int, h []api.Call, order []int, want [3]bool, last ...int64) {
	t.Helper()
	fits, time, turns, e := linear.Fits(kind, h, order)
	if got := [3]bool{fits, time, turns}; got != want || e != api.OK {
		t.Errorf("%s: Fits: %v %v, not %v", what, got, e, want)
	}
	if got, e := linear.Last(kind, h, order); !slices.Equal(got, last) || e != api.OK {
		t.Errorf("%s: Last: %v %v, not %v", what, got, e, last)
	}
}

// 26.3: Fits and Last.
func TestOrders(t *testing.T) {
	const register, counter, queue, stack = api.KindRegister, api.KindCounter, api.KindQueue, api.KindStack
	all := [3]bool{true, true, true}
	for _, kind := range kinds[:2] {
		told(t, "nothing", kind, nil, nil, all, 0)
	}
	for _, kind := range kinds[2:] {
		told(t, "nothing", kind, nil, []int{}, all)
	}
	late := []api.Call{write(0, 1, 0, 3), read(1, 0, 4, 5)}
	told(t, "it fits", register, late, []int{1, 0}, [3]bool{true, false, true}, 1)
	told(t, "it keeps time", register, late, []int{0, 1}, [3]bool{false, true, true}, 1)
	one := []api.Call{write(0, 1, 0, 3), read(0, 0, 4, 5)}
	told(t, "of one goroutine", register, one, []int{1, 0}, [3]bool{true, false, false}, 1)
	began := []api.Call{write(0, 1, 4, 5), write(0, 2, 0, 3)}
	told(t, "by their begins, not their places", register, began, []int{1, 0}, all, 1)
	told(t, "by their places", register, began, []int{0, 1}, [3]bool{true, false, false}, 2)
	sums := []api.Call{add(0, 5, 0, 1), add(1, -7, 2, 3), read(2, 5, 4, 5)}
	told(t, "sums", counter, sums, []int{0, 2, 1}, [3]bool{true, false, true}, -2)
	told(t, "wrap-round", counter, []api.Call{add(0, math.MinInt64, 0, 1), add(1, math.MinInt64, 2, 3), add(2, -1, 4, 5)}, []int{0, 1, 2}, all, -1)
	h := []api.Call{put(0, 1, 0, 1), put(0, 2, 2, 3), put(1, 3, 4, 5), take(1, 2, 6, 7)}
	told(t, "a queue that does not fit", queue, h, []int{0, 1, 2, 3}, [3]bool{false, true, true}, 2, 3)
	told(t, "a queue that does", queue, h, []int{1, 0, 2, 3}, [3]bool{true, false, false}, 1, 3)
	told(t, "a stack that does not fit", stack, h, []int{0, 1, 2, 3}, [3]bool{false, true, true}, 1, 2)
	told(t, "a stack that does", stack, h, []int{2, 0, 1, 3}, [3]bool{true, false, true}, 3, 1)
	told(t, "a take ahead of all", stack, h, []int{3, 0, 1, 2}, [3]bool{false, false, false}, 1, 2, 3)
	pend := []api.Call{put(0, 7, 0, -1), take(1, 0, 1, -1), put(2, 8, 2, 3)}
	told(t, "without the pending ones", queue, pend, []int{2}, all, 8)
	told(t, "with one of them", queue, pend, []int{2, 0}, all, 8, 7)
	told(t, "with both", queue, pend, []int{2, 0, 1}, all, 7)
	told(t, "with both, a stack", stack, pend, []int{2, 0, 1}, all, 8)
	told(t, "a pending take of nothing", stack, pend, []int{1, 2}, all, 8)
	behind := []api.Call{put(0, 7, 5, -1), put(2, 8, 2, 3)}
	told(t, "a pending one ahead of what ended before it", queue, behind, []int{0, 1}, [3]bool{true, false, true}, 7, 8)
	told(t, "a pending one behind what began behind it", queue, pend, []int{2, 1, 0}, all, 7)
}

// 26.3: lists that are no order of the history.
func TestNoOrders(t *testing.T) {
	h := []api.Call{write(0, 1, 0, 3), read(1, 1, 4, 5), write(2, 4, 6, -1), read(3, 0, 7, -1)}
	for _, order := range [][]int{nil, {0}, {1}, {0, 2}, {2, 3}, {0, 0}, {0, 1, 0}, {0, 1, 2, 2}, {0, 1, 2, 3, 3}, {0, 1, 4}, {0, 1, -1}, {-1, 0, 1}, {0, 1, math.MaxInt}, {math.MinInt, 0, 1}, make([]int, 1<<16)} {
		if a, b, c, e := linear.Fits(api.KindRegister, h, order); a || b || c || e != api.ErrArg {
			t.Errorf("Fits of %v: %v %v %v %v", order, a, b, c, e)
		}
		if l, e := linear.Last(api.KindRegister, h, order); len(l) > 0 || e != api.ErrArg {
			t.Errorf("Last of %v: %v %v", order, l, e)
		}
	}
	for _, order := range [][]int{{0, 1}, {1, 0}, {0, 1, 2}, {3, 0, 1}, {3, 2, 1, 0}} {
		if _, _, _, e := linear.Fits(api.KindRegister, h, order); e != api.OK {
			t.Errorf("Fits of %v: %v", order, e)
		}
	}
	if l, e := linear.Last(api.KindQueue, nil, []int{0}); len(l) > 0 || e != api.ErrArg {
		t.Errorf("of no history: %v %v", l, e)
	}
}

// P1: calls with any histories, kinds and orders end without a panic.
func TestAnything(t *testing.T) {
	for seed := range uint64(400) {
		draw := draws(seed)
		any := func() int { return []int{draw(9) - 1, draw(30) - 2, far[draw(len(far))]}[draw(3)] }
		h := make([]api.Call, draw(11))
		for i := range h {
			h[i] = api.Call{Go: any(), Do: any(), In: int64(any()), Out: int64(any()), Empty: draw(2) == 0, Begin: any(), End: any()}
		}
		order := make([]int, draw(11))
		for i := range order {
			order[i] = any()
		}
		for _, kind := range []int{any(), 1, 2, 3, 4} {
			linear.Check(kind, h)
			linear.Linear(kind, h)
			linear.Turns(kind, h)
			linear.Fits(kind, h, order)
			linear.Last(kind, h, order)
		}
	}
}

// R3, R6: histories and orders stay as they are, spare room too; answers are new memory; the same call tells the same.
func TestMemory(t *testing.T) {
	odd := api.Call{Go: -7}
	histories(60, linear.MaxCalls, func(kind int, x []api.Call) {
		h := append(slices.Clone(x), odd, odd)[:len(x)]
		linear.Check(kind, h)
		a, _, _ := linear.Linear(kind, h)
		b, _, _ := linear.Turns(kind, h)
		wantA, wantB := slices.Clone(a), slices.Clone(b)
		order := append(slices.Clone(b), -7, -7)[:len(b)]
		linear.Fits(kind, h, order)
		last, _ := linear.Last(kind, h, order)
		wantLast := slices.Clone(last)
		if !slices.Equal(order, b) || !slices.Equal(order[:len(b)+2][len(b):], []int{-7, -7}) {
			t.Error("a call changes its order")
		}
		spoil(a, -7)
		if !slices.Equal(b, wantB) {
			t.Error("answers share memory")
		}
		spoil(b, -7)
		spoil(last, -7)
		a, _, _ = linear.Linear(kind, h)
		b, _, _ = linear.Turns(kind, h)
		last, _ = linear.Last(kind, h, order)
		if !slices.Equal(a, wantA) || !slices.Equal(b, wantB) || !slices.Equal(last, wantLast) {
			t.Error("an answer is kept, or not told the same twice")
		}
		if !slices.Equal(h, x) || h[:len(h)+2][len(h)] != odd || h[:len(h)+2][len(h)+1] != odd {
			t.Error("a call changes its history")
		}
	})
}
