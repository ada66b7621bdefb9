package word

import (
	"math"
	"math/big"
	"math/rand/v2"
	"testing"

	"scarab/api"
)

const (
	least = math.MinInt64
	most  = math.MaxInt64
)

func dice() *rand.Rand { return rand.New(rand.NewPCG(3, 4)) }

// words are words of all sizes and both signs, the edges among them.
func words() []int64 {
	out := []int64{0, 1, -1, 2, -2, 3, -3, 5, 7, -7, 10, 60, 62, 63, 64, 65, -63, -64, -65, 127, 128, 200, 255, 256, least, least + 1, most, most - 1}
	for _, k := range []int{7, 8, 15, 16, 31, 32, 33, 61, 62} {
		p := int64(1) << k
		out = append(out, p-1, p, p+1, -p, -p-1, -p+1)
	}
	r := dice()
	for range 12 {
		out = append(out, int64(r.Uint64()), int64(r.Uint64()>>r.IntN(64)))
	}
	return out
}

// must is what an operation makes that has no fault.
func must(t *testing.T, op api.Op, a, b int64) int64 {
	t.Helper()
	x, e := Apply(op, a, b)
	if e != api.OK {
		t.Fatalf("Apply(%s, %d, %d): %v", Name(op), a, b, e)
	}
	return x
}

func whole(x int64) *big.Int       { return big.NewInt(x) }
func unsigned(x int64) *big.Int    { return new(big.Int).SetUint64(uint64(x)) }
func power2(n int64) *big.Int      { return new(big.Int).Lsh(big.NewInt(1), uint(n)) }
func floor(x, y *big.Int) *big.Int { return new(big.Int).Div(x, y) } // y is above 0

// round is the word that differs from x by a multiple of 2^64.
func round(x *big.Int) int64 {
	return int64(new(big.Int).Mod(x, power2(64)).Uint64())
}

// exact is what an operation that can go over would make without a round, nil of others.
func exact(op api.Op, a, b int64) *big.Int {
	z := new(big.Int)
	switch op {
	case api.OpNeg:
		return z.Neg(whole(a))
	case api.OpAbs:
		return z.Abs(whole(a))
	case api.OpAdd:
		return z.Add(whole(a), whole(b))
	case api.OpSub:
		return z.Sub(whole(a), whole(b))
	case api.OpMul:
		return z.Mul(whole(a), whole(b))
	case api.OpDiv:
		return z.Quo(whole(a), whole(b))
	case api.OpShl:
		// 2^200 and more are all alike: 0 of a round, over unless a is 0.
		return z.Mul(whole(a), power2(min(b, 200)))
	}
	return nil
}

func yes(b bool) int64 {
	if b {
		return 1
	}
	return 0
}

// table is what the document's table says, of operations that exact does not tell.
func table(op api.Op, a, b int64) int64 {
	at := func(x int64, k int) bool { return uint64(x)>>k%2 == 1 }
	each := func(f func(k int) bool) int64 {
		z := new(big.Int)
		for k := range 64 {
			if f(k) {
				z.Add(z, power2(int64(k)))
			}
		}
		return round(z)
	}
	mod := func(n int64, low *big.Int) int64 {
		z := new(big.Int).Sub(whole(a), low)
		return z.Mod(z, power2(n)).Add(z, low).Int64()
	}
	count := func(from, by int) int64 {
		n := int64(0)
		for k := from; k >= 0 && k < 64 && !at(a, k); k += by {
			n++
		}
		return n
	}
	switch op {
	case api.OpNot:
		return each(func(k int) bool { return !at(a, k) })
	case api.OpOnes:
		n := int64(0)
		for k := range 64 {
			n += yes(at(a, k))
		}
		return n
	case api.OpLead:
		return count(63, -1)
	case api.OpTrail:
		return count(0, 1)
	case api.OpFlip:
		return each(func(k int) bool { return at(a, 63-k) })
	case api.OpBool:
		return yes(a != 0)
	case api.OpNo:
		return yes(a == 0)
	case api.OpI8:
		return mod(8, whole(-1<<7))
	case api.OpI16:
		return mod(16, whole(-1<<15))
	case api.OpI32:
		return mod(32, whole(-1<<31))
	case api.OpU8:
		return mod(8, whole(0))
	case api.OpU16:
		return mod(16, whole(0))
	case api.OpU32:
		return mod(32, whole(0))
	case api.OpRem:
		return new(big.Int).Rem(whole(a), whole(b)).Int64()
	case api.OpAnd:
		return each(func(k int) bool { return at(a, k) && at(b, k) })
	case api.OpOr:
		return each(func(k int) bool { return at(a, k) || at(b, k) })
	case api.OpXor:
		return each(func(k int) bool { return at(a, k) != at(b, k) })
	case api.OpClear:
		return each(func(k int) bool { return at(a, k) && !at(b, k) })
	case api.OpShr:
		return floor(whole(a), power2(min(b, 200))).Int64()
	case api.OpUshr:
		return round(floor(unsigned(a), power2(min(b, 200))))
	case api.OpRotl:
		by := int(new(big.Int).Mod(whole(b), whole(64)).Int64())
		return each(func(k int) bool { return at(a, (k-by+64)%64) })
	case api.OpEq:
		return yes(whole(a).Cmp(whole(b)) == 0)
	case api.OpNe:
		return yes(whole(a).Cmp(whole(b)) != 0)
	case api.OpLt:
		return yes(whole(a).Cmp(whole(b)) < 0)
	case api.OpLe:
		return yes(whole(a).Cmp(whole(b)) <= 0)
	case api.OpUlt:
		return yes(unsigned(a).Cmp(unsigned(b)) < 0)
	case api.OpMin:
		return -max(^a, ^b) - 1
	case api.OpMax:
		return -min(^a, ^b) - 1
	}
	return floor(new(big.Int).Mul(whole(a), whole(b)), power2(64)).Int64()
}

// faultOf is the error that the table names.
func faultOf(op api.Op, b int64) api.Errno {
	if b == 0 && (op == api.OpDiv || op == api.OpRem) {
		return api.ErrDivide
	}
	if b < 0 && op >= api.OpShl && op <= api.OpUshr {
		return api.ErrShift
	}
	return api.OK
}

// 2.1, 2.2: every operation, at all pairs of words, against whole numbers without a limit.
func TestTable(t *testing.T) {
	all := words()
	for op := api.OpNeg; op <= api.LastTwo; op++ {
		for _, a := range all {
			for _, b := range all {
				want, over, fault := int64(0), false, faultOf(op, b)
				if fault == api.OK {
					if x := exact(op, a, b); x != nil {
						want, over = round(x), whole(round(x)).Cmp(x) != 0
					} else {
						want = table(op, a, b)
					}
				}
				if got, e := Apply(op, a, b); got != want || e != fault {
					t.Fatalf("Apply(%s, %d, %d): %d, %v; not %d, %v", Name(op), a, b, got, e, want, fault)
				}
				if got, e := Over(op, a, b); got != over || e != fault {
					t.Fatalf("Over(%s, %d, %d): %v, %v; not %v, %v", Name(op), a, b, got, e, over, fault)
				}
			}
		}
	}
}

// 2.1: the chapter's examples, written out.
func TestApplyExamples(t *testing.T) {
	for _, c := range []struct {
		op         api.Op
		a, b, want int64
		e          api.Errno
	}{
		{api.OpDiv, -7, 2, -3, 0}, {api.OpRem, -7, 2, -1, 0}, {api.OpDiv, least, -1, least, 0}, {api.OpRem, least, -1, 0, 0},
		{api.OpDiv, 1, 0, 0, api.ErrDivide}, {api.OpRem, least, 0, 0, api.ErrDivide},
		{api.OpShl, 1, 63, least, 0}, {api.OpShl, 1, 64, 0, 0}, {api.OpShr, -5, 1, -3, 0}, {api.OpUshr, -1, 60, 15, 0},
		{api.OpShr, -5, 64, -1, 0}, {api.OpShr, 5, most, 0, 0}, {api.OpUshr, -1, 64, 0, 0},
		{api.OpShl, 1, -1, 0, api.ErrShift}, {api.OpShr, 1, least, 0, api.ErrShift}, {api.OpUshr, 0, -64, 0, api.ErrShift},
		{api.OpRotl, 1, -1, least, 0}, {api.OpRotl, 1, 64, 1, 0}, {api.OpRotl, 1, least, 1, 0},
		{api.OpI8, 200, 0, -56, 0}, {api.OpU8, -56, 0, 200, 0}, {api.OpI16, 65535, 0, -1, 0},
		{api.OpHigh, -1, 1, -1, 0}, {api.OpHigh, least, least, 1 << 62, 0},
		{api.OpAbs, least, 0, least, 0}, {api.OpNeg, least, 0, least, 0}, {api.OpLead, 0, 0, 64, 0}, {api.OpTrail, 0, 0, 64, 0},
	} {
		if got, e := Apply(c.op, c.a, c.b); got != c.want || e != c.e {
			t.Errorf("Apply(%s, %d, %d): %d, %v", Name(c.op), c.a, c.b, got, e)
		}
	}
}

// 2.1, 2.2: operations of one operand look at a alone.
func TestOneOperand(t *testing.T) {
	for op := api.OpNeg; op <= api.LastOne; op++ {
		for _, a := range words() {
			want, over := must(t, op, a, 0), op <= api.OpAbs && op != api.OpNot && a == least
			for _, b := range []int64{0, -1, 1, least, most} {
				if got, e := Apply(op, a, b); got != want || e != api.OK {
					t.Errorf("Apply(%s, %d, %d): %d, %v", Name(op), a, b, got, e)
				}
				if got, e := Over(op, a, b); got != over || e != api.OK {
					t.Errorf("Over(%s, %d, %d): %v, %v", Name(op), a, b, got, e)
				}
			}
		}
	}
}

// 2.1, 2.2: numbers that are no operation of numbers, those of programs among them.
func TestNoOperation(t *testing.T) {
	for _, op := range []api.Op{0, -1, 37, 39, api.OpConst, api.OpEnd, api.OpLoad, api.OpTaken, 1000, math.MaxInt, math.MinInt} {
		if x, e := Apply(op, 1, 0); x != 0 || e != api.ErrWhat {
			t.Errorf("Apply(%d): %d, %v", op, x, e)
		}
		if over, e := Over(op, 1, 0); over || e != api.ErrWhat {
			t.Errorf("Over(%d): %v, %v", op, over, e)
		}
		if Arity(op) != 0 || Name(op) != "" || Fits(0, op) {
			t.Errorf("%d: arity %d, name %q, fits %v", op, Arity(op), Name(op), Fits(0, op))
		}
	}
}

// 2.2: what goes over, at the edges.
func TestOver(t *testing.T) {
	for _, c := range []struct {
		op   api.Op
		a, b int64
		want bool
	}{
		{api.OpDiv, least, -1, true}, {api.OpDiv, least, 1, false}, {api.OpDiv, most, -1, false}, {api.OpRem, least, -1, false},
		{api.OpShl, 1, 63, true}, {api.OpShl, 1, 62, false}, {api.OpShl, 1, 64, true}, {api.OpShl, -1, 63, false}, {api.OpShl, -1, 64, true},
		{api.OpShl, 0, 64, false}, {api.OpShl, 0, most, false}, {api.OpShl, 5, most, true},
		{api.OpAdd, most, 1, true}, {api.OpAdd, 1 << 62, 1 << 61, false}, {api.OpAdd, least, -1, true}, {api.OpAdd, least, most, false},
		{api.OpSub, least, 1, true}, {api.OpSub, 0, least, true}, {api.OpSub, -1, least, false},
		{api.OpMul, least, -1, true}, {api.OpMul, 1 << 32, 1 << 31, true}, {api.OpMul, -1 << 32, 1 << 31, false}, {api.OpMul, 0, least, false},
		{api.OpU8, -1, 0, false}, {api.OpHigh, most, most, false}, {api.OpRotl, most, 1, false}, {api.OpNot, least, 0, false},
	} {
		if got, e := Over(c.op, c.a, c.b); got != c.want || e != api.OK {
			t.Errorf("Over(%s, %d, %d): %v, %v", Name(c.op), c.a, c.b, got, e)
		}
	}
	if over, e := Over(api.OpDiv, least, 0); over || e != api.ErrDivide {
		t.Errorf("Over(div, least, 0): %v, %v", over, e)
	}
	if over, e := Over(api.OpShl, 1, -1); over || e != api.ErrShift {
		t.Errorf("Over(shl, 1, -1): %v, %v", over, e)
	}
}

// 2.2: the ends of each conversion, and no other operation.
func TestFits(t *testing.T) {
	for _, c := range []struct {
		op        api.Op
		low, high int64
	}{
		{api.OpI8, -128, 127}, {api.OpI16, -32768, 32767}, {api.OpI32, -1 << 31, 1<<31 - 1},
		{api.OpU8, 0, 255}, {api.OpU16, 0, 65535}, {api.OpU32, 0, 1<<32 - 1},
	} {
		if !Fits(c.low, c.op) || !Fits(c.high, c.op) || Fits(c.low-1, c.op) || Fits(c.high+1, c.op) || Fits(least, c.op) || Fits(most, c.op) {
			t.Errorf("Fits at the ends of %s", Name(c.op))
		}
	}
	for op := api.OpNeg; op <= api.LastTwo; op++ {
		for _, x := range []int64{0, 1} {
			if want := op >= api.OpI8 && op <= api.OpU32; Fits(x, op) != want {
				t.Errorf("Fits(%d, %s): %v", x, Name(op), !want)
			}
		}
	}
}
