// Package word is layer 2: arithmetic of 64 bits. See shared/doc/02-word.md.
package word

import (
	"math"
	"math/bits"

	"scarab/api"
)

// Apply is what an operation of numbers makes.
func Apply(op api.Op, a, b int64) (int64, api.Errno) {
	if e := fault(op, b); e != api.OK {
		return 0, e
	}
	switch {
	case op < api.OpI8:
		return single(op, a), api.OK
	case op <= api.LastOne:
		return convert(op, a), api.OK
	case op < api.OpAnd:
		return arithmetic(op, a, b), api.OK
	case op < api.OpShl:
		return bitwise(op, a, b), api.OK
	case op < api.OpEq:
		return shift(op, a, b), api.OK
	}
	return compare(op, a, b), api.OK
}

// fault is why an operation makes nothing; the first operand is never to blame.
func fault(op api.Op, b int64) api.Errno {
	if Arity(op) == 0 {
		return api.ErrWhat
	}
	switch op {
	case api.OpDiv, api.OpRem:
		if b == 0 {
			return api.ErrDivide
		}
	case api.OpShl, api.OpShr, api.OpUshr:
		if b < 0 {
			return api.ErrShift
		}
	}
	return api.OK
}

// single does OpNeg to OpNo.
func single(op api.Op, a int64) int64 {
	switch op {
	case api.OpAbs:
		if a >= 0 {
			return a
		}
		fallthrough
	case api.OpNeg:
		return -a
	case api.OpNot:
		return ^a
	case api.OpOnes:
		return ones(a)
	case api.OpTrail:
		// what is below the lowest 1 is above the highest one of the flipped bits.
		a = flip(a)
		fallthrough
	case api.OpLead:
		return lead(a)
	case api.OpFlip:
		return flip(a)
	case api.OpBool:
		return truth(a != 0)
	}
	return truth(a == 0)
}

// convert does OpI8 to OpU32.
func convert(op api.Op, a int64) int64 {
	switch op {
	case api.OpI8:
		return int64(int8(a))
	case api.OpI16:
		return int64(int16(a))
	case api.OpI32:
		return int64(int32(a))
	case api.OpU8:
		return int64(uint8(a))
	case api.OpU16:
		return int64(uint16(a))
	}
	return int64(uint32(a))
}

// arithmetic does OpAdd to OpRem, where fault found nothing wrong.
func arithmetic(op api.Op, a, b int64) int64 {
	switch op {
	case api.OpSub:
		b = -b
		fallthrough
	case api.OpAdd:
		return a + b
	case api.OpMul:
		return a * b
	case api.OpDiv:
		return a / b
	}
	return a % b
}

// bitwise does OpAnd to OpClear.
func bitwise(op api.Op, a, b int64) int64 {
	switch op {
	case api.OpClear:
		b = ^b
		fallthrough
	case api.OpAnd:
		return a & b
	case api.OpOr:
		return a | b
	}
	return a ^ b
}

// shift does OpShl to OpRotl, where fault found nothing wrong.
func shift(op api.Op, a, b int64) int64 {
	switch op {
	case api.OpShl:
		return a << uint64(b)
	case api.OpShr:
		return a >> uint64(b)
	case api.OpUshr:
		return int64(uint64(a) >> uint64(b))
	}
	return int64(bits.RotateLeft64(uint64(a), int(b&63)))
}

// compare does OpEq to OpHigh.
func compare(op api.Op, a, b int64) int64 {
	switch op {
	case api.OpEq:
		return truth(a == b)
	case api.OpNe:
		return truth(a != b)
	case api.OpUlt:
		// with both signs turned, the order of words is that of unsigned ones.
		a, b = a^math.MinInt64, b^math.MinInt64
		fallthrough
	case api.OpLt:
		return truth(a < b)
	case api.OpLe:
		return truth(a <= b)
	case api.OpMin:
		return min(a, b)
	case api.OpMax:
		return max(a, b)
	}
	hi, _ := Wide(a, b)
	return hi
}

// Over tells whether what an operation makes goes over.
func Over(op api.Op, a, b int64) (bool, api.Errno) {
	made, e := Apply(op, a, b)
	if e != api.OK {
		return false, e
	}
	return over(op, a, b, made), api.OK
}

// over is Over of an operation that made something.
func over(op api.Op, a, b, made int64) bool {
	switch op {
	case api.OpAdd:
		return (a^made)&(b^made) < 0
	case api.OpSub:
		return (a^b)&(a^made) < 0
	case api.OpMul:
		hi, lo := Wide(a, b)
		return hi != int64(lo)>>63
	case api.OpShl:
		return made>>uint64(b) != a
	case api.OpDiv:
		if b != -1 {
			return false
		}
		fallthrough
	case api.OpNeg, api.OpAbs:
		return a == math.MinInt64
	}
	return false
}

// Fits tells whether a conversion leaves a number as it is.
func Fits(x int64, op api.Op) bool {
	return op >= api.OpI8 && op <= api.OpU32 && convert(op, x) == x
}
