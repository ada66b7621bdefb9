package pct

import (
	"iter"
	"slices"

	"scarab/api"
)

// queue is an order of all goroutines, the one that goes first at its front.
type queue [api.MaxGos]int

// rising is the order in which their numbers rise.
func rising() queue {
	var q queue
	for g := range q {
		q[g] = g
	}
	return q
}

// read is the order that a list tells.
func read(l []int) (queue, api.Errno) {
	var q queue
	if len(l) != len(q) {
		return queue{}, api.ErrArg
	}
	copy(q[:], l)
	sorted := q
	slices.Sort(sorted[:])
	if sorted != rising() {
		return queue{}, api.ErrArg
	}
	return q, api.OK
}

// first is the place of the first goroutine that is ready, where one is.
func (q queue) first(h heads) int {
	return slices.IndexFunc(q[:], func(g int) bool { return h[g] > 0 })
}

// pick is the pick that comes next, where something is ready.
func (q queue) pick(h heads) api.Pick {
	g := q[q.first(h)]
	return api.Pick{Go: g, Alt: int(h[g]) - 1}
}

// changed is an order in which the first goroutine that is ready was put last.
func (q queue) changed(h heads) queue {
	at := q.first(h)
	g := q[at]
	copy(q[at:], q[at+1:])
	q[len(q)-1] = g
	return q
}

// queues hands out the orders that begin with some order of the numbers below n, the others rising behind these, in the
// order of lists of numbers.
func queues(n int) iter.Seq[queue] {
	return func(yield func(queue) bool) {
		q, more := rising(), true
		for more && yield(q) {
			q, more = q.next(n)
		}
	}
}

// next is the order behind one, if there is one, with the same n first numbers.
func (q queue) next(n int) (queue, bool) {
	at := n - 2
	for at >= 0 && q[at] > q[at+1] {
		at--
	}
	if at < 0 {
		return queue{}, false
	}
	// what stands behind it falls: the last one that is greater is the least of these.
	other := n - 1
	for q[other] < q[at] {
		other--
	}
	q[at], q[other] = q[other], q[at]
	slices.Reverse(q[at+1 : n])
	return q, true
}

// turns hands out how an order goes on at a step, with changes left that come at unlike steps below MaxAt: changed, if
// one is left; and as it is, if all that are left have steps further on. Each comes with how many are left then. So the
// lists of changes come in their order.
func (q queue) turns(at, left int, h heads) iter.Seq2[queue, int] {
	return func(yield func(queue, int) bool) {
		if left > 0 && !yield(q.changed(h), left-1) {
			return
		}
		if left == 0 || at+left < MaxAt {
			yield(q, left)
		}
	}
}
