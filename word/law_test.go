package word

import (
	"testing"

	"scarab/api"
)

// 2.5: a ring.
func TestRing(t *testing.T) {
	r, all := dice(), words()
	word := func() int64 { return all[r.IntN(len(all))] }
	add := func(a, b int64) int64 { return must(t, api.OpAdd, a, b) }
	mul := func(a, b int64) int64 { return must(t, api.OpMul, a, b) }
	for range 5000 {
		a, b, c := word(), word(), word()
		if add(a, b) != add(b, a) || mul(a, b) != mul(b, a) {
			t.Fatalf("order: %d, %d", a, b)
		}
		if add(add(a, b), c) != add(a, add(b, c)) || mul(mul(a, b), c) != mul(a, mul(b, c)) {
			t.Fatalf("brackets: %d, %d, %d", a, b, c)
		}
		if mul(a, add(b, c)) != add(mul(a, b), mul(a, c)) {
			t.Fatalf("mul over add: %d, %d, %d", a, b, c)
		}
		if add(a, must(t, api.OpNeg, a, 0)) != 0 || add(a, 0) != a || mul(a, 1) != a {
			t.Fatalf("0, 1 and neg: %d", a)
		}
	}
}

// magnitude is a word's size; that of the least one is 2^63.
func magnitude(x int64) uint64 {
	if x < 0 {
		return -uint64(x)
	}
	return uint64(x)
}

// 2.6: quotient and rest.
func TestQuotientAndRest(t *testing.T) {
	for _, a := range words() {
		for _, b := range words() {
			if b == 0 {
				continue
			}
			q, r := must(t, api.OpDiv, a, b), must(t, api.OpRem, a, b)
			if q*b+r != a {
				t.Errorf("%d is not %d times %d and %d", a, q, b, r)
			}
			if r != 0 && (r < 0) != (a < 0) || magnitude(r) >= magnitude(b) {
				t.Errorf("the rest of %d by %d: %d", a, b, r)
			}
		}
	}
}

// 2.7: conversions.
func TestConversions(t *testing.T) {
	for _, a := range words() {
		for op := api.OpI8; op <= api.OpU32; op++ {
			once := must(t, op, a, 0)
			if must(t, op, once, 0) != once || !Fits(once, op) {
				t.Errorf("%s of %s of %d", Name(op), Name(op), a)
			}
			if Fits(a, op) != (once == a) {
				t.Errorf("Fits(%d, %s)", a, Name(op))
			}
			last := api.OpI32
			if op >= api.OpU8 {
				last = api.OpU32
			}
			for wider := op; wider <= last; wider++ {
				if must(t, op, must(t, wider, a, 0), 0) != once {
					t.Errorf("%s of %s of %d", Name(op), Name(wider), a)
				}
			}
		}
	}
}

// 2.8: bits.
func TestBits(t *testing.T) {
	twice := func(op api.Op, a int64) int64 { return must(t, op, must(t, op, a, 0), 0) }
	for _, a := range words() {
		for _, b := range words() {
			back := must(t, api.OpRotl, must(t, api.OpRotl, a, b), must(t, api.OpNeg, b, 0))
			if back != a {
				t.Errorf("rotl of %d by %d and back: %d", a, b, back)
			}
		}
		if twice(api.OpFlip, a) != a || twice(api.OpNot, a) != a {
			t.Errorf("flip and not, each twice, of %d", a)
		}
		if must(t, api.OpOnes, a, 0)+must(t, api.OpOnes, must(t, api.OpNot, a, 0), 0) != 64 {
			t.Errorf("ones of %d and of its not", a)
		}
		if must(t, api.OpLead, a, 0) != must(t, api.OpTrail, must(t, api.OpFlip, a, 0), 0) {
			t.Errorf("lead of %d and trail of its flip", a)
		}
	}
}

// 2.9: sub takes back what add made; TestTable holds what does not go over against the exact number.
func TestSubOfAdd(t *testing.T) {
	for _, a := range words() {
		for _, b := range words() {
			if got := must(t, api.OpSub, must(t, api.OpAdd, a, b), b); got != a {
				t.Errorf("%d and %d, less that: %d", a, b, got)
			}
			if over, _ := Over(api.OpAdd, a, b); !over {
				if sum := whole(must(t, api.OpAdd, a, b)); sum.Sub(sum, whole(b)).Cmp(whole(a)) != 0 {
					t.Errorf("%d and %d does not go over, but is not exact", a, b)
				}
			}
		}
	}
}

// 2.10: back from Wide, Text and Name.
func TestBack(t *testing.T) {
	for _, a := range words() {
		for _, b := range words() {
			hi, lo := Wide(a, b)
			if b == 0 {
				continue
			}
			if q, r, e := Divide(hi, lo, b); q != a || r != 0 || e != api.OK {
				t.Errorf("Divide of Wide(%d, %d): %d, %d, %v", a, b, q, r, e)
			}
		}
		if x, e := Parse(Text(a)); x != a || e != api.OK {
			t.Errorf("Parse(%q): %d, %v", Text(a), x, e)
		}
	}
	for op := api.OpNeg; op <= api.LastTwo; op++ {
		if back, ok := Named(Name(op)); back != op || !ok {
			t.Errorf("Named(%q): %d, %v", Name(op), back, ok)
		}
	}
}
