package clock_test

import (
	"math"
	"testing"

	"scarab/api"
	"scarab/clock"
	"scarab/sample"
)

// wrong are numbers that no clock has.
var wrong = []int{math.MinInt, math.MinInt32, -2, -1, clock.MaxTime + 1, clock.MaxTime + 2, math.MaxInt32, math.MaxInt - 1, math.MaxInt}

// small are all clocks whose numbers are from 0 to most at three places, and 0 at the others.
func small(most, p, q, r int) []api.Clock {
	var l []api.Clock
	for x := range most + 1 {
		for y := range most + 1 {
			for z := range most + 1 {
				var a api.Clock
				a[p], a[q], a[r] = x, y, z
				l = append(l, a)
			}
		}
	}
	return l
}

// sampled are n right clocks: some with small numbers, some with any, some with those at the edges.
func sampled(seed uint64, n int) []api.Clock {
	edges := []int{0, 1, clock.MaxTime - 1, clock.MaxTime}
	numbers := sample.Choices(seed, n*api.MaxGos)
	l := make([]api.Clock, n)
	for i := range l {
		for g := range l[i] {
			x := numbers[i*api.MaxGos+g] & math.MaxInt
			l[i][g] = [...]int{x % 3, x % (clock.MaxTime + 1), edges[x/5%4]}[i%3]
		}
	}
	return l
}

// notAbove tells whether a is not above b, by the chapter's words.
func notAbove(a, b api.Clock) bool {
	for g := range a {
		if a[g] > b[g] {
			return false
		}
	}
	return true
}

// same tells whether both have the same numbers.
func same(a, b api.Clock) bool { return notAbove(a, b) && notAbove(b, a) }

// joined is the join of two right clocks.
func joined(t *testing.T, a, b api.Clock) api.Clock {
	t.Helper()
	c, e := clock.Join(a, b)
	if e != api.OK {
		t.Fatalf("Join of %v and %v: %v", a, b, e)
	}
	return c
}

// met is the meet of two right clocks.
func met(t *testing.T, a, b api.Clock) api.Clock {
	t.Helper()
	c, e := clock.Meet(a, b)
	if e != api.OK {
		t.Fatalf("Meet of %v and %v: %v", a, b, e)
	}
	return c
}

// compared is how two right clocks stand.
func compared(t *testing.T, a, b api.Clock) int {
	t.Helper()
	n, e := clock.Cmp(a, b)
	if e != api.OK {
		t.Fatalf("Cmp of %v and %v: %v", a, b, e)
	}
	return n
}
