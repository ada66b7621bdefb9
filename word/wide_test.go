package word

import (
	"math"
	"math/big"
	"testing"

	"scarab/api"
)

// both is hi times 2^64 and lo.
func both(hi int64, lo uint64) *big.Int {
	z := new(big.Int).Mul(whole(hi), power2(64))
	return z.Add(z, new(big.Int).SetUint64(lo))
}

// 2.4: Power.
func TestPower(t *testing.T) {
	for _, c := range []struct {
		a    int64
		n    uint64
		want int64
	}{
		{3, 4, 81}, {2, 64, 0}, {0, 0, 1}, {5, 0, 1}, {0, 9, 0}, {2, 63, least}, {-2, 63, least}, {-1, math.MaxUint64, -1}, {-1, math.MaxUint64 - 1, 1},
		{least, 1, least}, {least, 2, 0}, {1, math.MaxUint64, 1}, {2, math.MaxUint64, 0}, {-3, 3, -27},
	} {
		if got := Power(c.a, c.n); got != c.want {
			t.Errorf("Power(%d, %d): %d", c.a, c.n, got)
		}
	}
	for _, a := range words() {
		for _, b := range words() {
			n := uint64(b)
			want := round(new(big.Int).Exp(unsigned(a), unsigned(b), power2(64)))
			if got := Power(a, n); got != want {
				t.Errorf("Power(%d, %d): %d, not %d", a, n, got, want)
			}
		}
	}
}

// 2.4: Wide.
func TestWide(t *testing.T) {
	if hi, lo := Wide(-1, 1); hi != -1 || lo != math.MaxUint64 {
		t.Errorf("Wide(-1, 1): %d, %d", hi, lo)
	}
	if hi, lo := Wide(1<<62, 4); hi != 1 || lo != 0 {
		t.Errorf("Wide(2^62, 4): %d, %d", hi, lo)
	}
	for _, a := range words() {
		for _, b := range words() {
			hi, lo := Wide(a, b)
			if both(hi, lo).Cmp(new(big.Int).Mul(whole(a), whole(b))) != 0 {
				t.Errorf("Wide(%d, %d): %d, %d", a, b, hi, lo)
			}
		}
	}
}

// 2.4: Divide, at the chapter's examples and at its edges.
func TestDivide(t *testing.T) {
	for _, c := range []struct {
		hi   int64
		lo   uint64
		d    int64
		q, r int64
		e    api.Errno
	}{
		{1, 0, 4, 1 << 62, 0, api.OK},
		{-1, math.MaxUint64 - 6, 2, -3, -1, api.OK},
		{0, 7, -2, -3, 1, api.OK},
		{0, 7, 0, 0, 0, api.ErrDivide},
		{1, 0, 0, 0, 0, api.ErrDivide},
		{1, 0, 1, 0, 0, api.ErrBig},
		{1, 0, 2, 0, 0, api.ErrBig},
		{1, 0, -2, least, 0, api.OK},
		{1, 1, -2, least, 1, api.OK},
		{1, 2, -2, 0, 0, api.ErrBig},
		{-1, 0, 2, least, 0, api.OK},
		{-1, 0, -2, 0, 0, api.ErrBig},
		{0, most, 1, most, 0, api.OK},
		{0, 1 << 63, 1, 0, 0, api.ErrBig},
		{0, 1 << 63, -1, least, 0, api.OK},
		{-1, 1 << 63, 1, least, 0, api.OK},
		{-1, 1 << 63, -1, 0, 0, api.ErrBig},
		{least, 0, least, 0, 0, api.ErrBig},
		{least, 0, most, 0, 0, api.ErrBig},
		{least, 0, 1, 0, 0, api.ErrBig},
		{1 << 62, 0, least, least, 0, api.OK},
	} {
		if q, r, e := Divide(c.hi, c.lo, c.d); q != c.q || r != c.r || e != c.e {
			t.Errorf("Divide(%d, %d, %d): %d, %d, %v", c.hi, c.lo, c.d, q, r, e)
		}
	}
}

// 2.4: Divide against whole numbers without a limit.
func TestDivideExact(t *testing.T) {
	all := words()
	small := []int64{0, -1, 1, -2, 2, 1 << 61, 1 << 62, -1 << 62, least, most}
	for _, hi := range small {
		for _, low := range all {
			for _, d := range all {
				if d == 0 {
					continue
				}
				lo := uint64(low)
				q, r := new(big.Int).QuoRem(both(hi, lo), whole(d), new(big.Int))
				gotQ, gotR, e := Divide(hi, lo, d)
				if !q.IsInt64() {
					if gotQ != 0 || gotR != 0 || e != api.ErrBig {
						t.Errorf("Divide(%d, %d, %d): %d, %d, %v", hi, lo, d, gotQ, gotR, e)
					}
				} else if gotQ != q.Int64() || gotR != r.Int64() || e != api.OK {
					t.Errorf("Divide(%d, %d, %d): %d, %d, %v; not %v, %v", hi, lo, d, gotQ, gotR, e, q, r)
				}
			}
		}
	}
}
