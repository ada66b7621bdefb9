package clock_test

import (
	"slices"
	"testing"

	"scarab/api"
	"scarab/clock"
)

// 11.5: laws of two clocks: the order of both is nothing, each takes the other up, and Cmp tells the same as they do.
func TestLatticeOfTwo(t *testing.T) {
	l := slices.Concat(small(2, 0, 2, 5), small(1, 1, 3, 4), sampled(1, 40))
	for _, a := range l {
		for _, b := range l {
			j, m := joined(t, a, b), met(t, a, b)
			if j != joined(t, b, a) || m != met(t, b, a) {
				t.Errorf("%v, %v: the order tells", a, b)
			}
			if joined(t, a, m) != a || met(t, a, j) != a {
				t.Errorf("%v, %v: not taken up", a, b)
			}
			below := compared(t, a, b) == -1 || compared(t, a, b) == 0
			if below != (j == b) || below != (m == a) {
				t.Errorf("%v, %v: Cmp tells otherwise than Join %v and Meet %v", a, b, j, m)
			}
		}
		if joined(t, a, a) != a || met(t, a, a) != a || joined(t, a, api.Clock{}) != a || met(t, a, api.Clock{}) != (api.Clock{}) {
			t.Errorf("%v: with itself, or with noughts", a)
		}
	}
}

// 11.5: laws of three clocks: brackets are nothing, and Join is the least one that is not below either.
func TestLatticeOfThree(t *testing.T) {
	l := slices.Concat(small(2, 0, 1, 4), sampled(2, 15))
	for _, a := range l {
		for _, b := range l {
			for _, c := range l {
				if joined(t, a, joined(t, b, c)) != joined(t, joined(t, a, b), c) || met(t, a, met(t, b, c)) != met(t, met(t, a, b), c) {
					t.Fatalf("%v, %v, %v: brackets tell", a, b, c)
				}
				j := joined(t, a, b)
				if notAbove(a, c) && notAbove(b, c) && !notAbove(j, c) {
					t.Fatalf("%v, %v: %v is not above %v", a, b, j, c)
				}
			}
			if j := joined(t, a, b); !notAbove(a, j) || !notAbove(b, j) {
				t.Fatalf("%v, %v: Join %v is below", a, b, j)
			}
		}
	}
}

// 11.5: Joined does not hang on the order, nor on clocks that stand there twice.
func TestJoinedOrder(t *testing.T) {
	for seed := range uint64(40) {
		l := sampled(seed, 20)
		was, _ := clock.Joined(l)
		turned := slices.Clone(l)
		slices.Reverse(turned)
		for _, other := range [][]api.Clock{turned, append(turned[5:], l...)} {
			if c, e := clock.Joined(other); c != was || e != api.OK {
				t.Errorf("seed %d: %v %v, not %v", seed, c, e, was)
			}
		}
		head, _ := clock.Joined(l[:7])
		tail, _ := clock.Joined(l[7:])
		if joined(t, head, tail) != was {
			t.Errorf("seed %d: the pieces are not the whole", seed)
		}
	}
}

// 11.6: Cmp is an order: turned about it tells the other way; what is below what is below is below.
func TestOrder(t *testing.T) {
	turned := map[int]int{-1: 1, 0: 0, 1: -1, 2: 2}
	l := slices.Concat(small(2, 0, 3, 5), sampled(3, 15))
	chains := 0
	for _, a := range l {
		for _, b := range l {
			n := compared(t, a, b)
			if back, ok := turned[n]; !ok || back != compared(t, b, a) || (n == 0) != same(a, b) {
				t.Errorf("%v, %v: %d", a, b, n)
			}
			for _, c := range l {
				if n == -1 && compared(t, b, c) == -1 {
					chains++
					if compared(t, a, c) != -1 {
						t.Errorf("%v, %v, %v: not below", a, b, c)
					}
				}
			}
		}
	}
	if chains < 100 {
		t.Errorf("only %d chains", chains)
	}
}

// 11.6: Tick is above, and nothing is between.
func TestTickAbove(t *testing.T) {
	for _, a := range append(small(2, 0, 1, 2), sampled(4, 100)...) {
		for g := range api.MaxGos {
			if a[g] == clock.MaxTime {
				continue
			}
			up, e := clock.Tick(a, g)
			if e != api.OK || compared(t, a, up) != -1 || compared(t, up, a) != 1 {
				t.Errorf("Tick of %v at %d: %v %v", a, g, up, e)
			}
			for h := range g {
				if other, e := clock.Tick(a, h); e == api.OK && (compared(t, up, other) != 2 || met(t, up, other) != a) {
					t.Errorf("Ticks of %v at %d and %d: %v %v", a, g, h, up, other)
				}
			}
		}
	}
}

// R3: lists stay as they are, spare room too, and places are new memory.
func TestMemory(t *testing.T) {
	odd := api.Clock{-7}
	was := sampled(5, 12)
	l := append(slices.Clone(was), odd, odd)[:len(was)]
	clock.Joined(l)
	at, _ := clock.Tops(l)
	kept := slices.Clone(at)
	for i := range at[:cap(at)] {
		at[:cap(at)][i] = -7
	}
	if again, _ := clock.Tops(l); !slices.Equal(again, kept) || len(kept) == 0 {
		t.Errorf("Tops are kept: %v, not %v", again, kept)
	}
	if !slices.Equal(l, was) || l[:len(was)+2][len(was)] != odd {
		t.Error("a call changes a list")
	}
}
