package word

import (
	"math"
	"math/bits"

	"scarab/api"
)

// Power is a number's power.
func Power(a int64, n uint64) int64 {
	out := int64(1)
	for k := range wordBits {
		if n>>k&1 == 1 {
			out *= a
		}
		a *= a
	}
	return out
}

// Wide is a product, whole: its high word and its low one.
func Wide(a, b int64) (int64, uint64) {
	hi, lo := bits.Mul64(uint64(a), uint64(b))
	// unsigned, a number below 0 is 2^64 too great, so the other one is in hi once too often.
	if a < 0 {
		hi -= uint64(b)
	}
	if b < 0 {
		hi -= uint64(a)
	}
	return int64(hi), lo
}

// Divide is a number of two words by one, and the rest.
func Divide(hi int64, lo uint64, d int64) (int64, int64, api.Errno) {
	if d == 0 {
		return 0, 0, api.ErrDivide
	}
	top, low := size(hi, lo)
	by := uint64(d)
	if d < 0 {
		by = -by
	}
	if top >= by {
		return 0, 0, api.ErrBig
	}
	q, r := bits.Div64(top, low, by)
	quotient, ok := signed(q, (hi < 0) != (d < 0))
	if !ok {
		return 0, 0, api.ErrBig
	}
	// the rest is less in size than d, so it is always a word.
	rest, _ := signed(r, hi < 0)
	return quotient, rest, api.OK
}

// size is a number of two words without its sign.
func size(hi int64, lo uint64) (uint64, uint64) {
	if hi >= 0 {
		return uint64(hi), lo
	}
	low, borrow := bits.Sub64(0, lo, 0)
	top, _ := bits.Sub64(0, uint64(hi), borrow)
	return top, low
}

// signed is the word of that size and sign, if there is one.
func signed(x uint64, below bool) (int64, bool) {
	if below {
		return -int64(x), x <= 1<<63
	}
	return int64(x), x <= math.MaxInt64
}
