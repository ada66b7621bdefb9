package word

import (
	"strconv"
	"strings"

	"scarab/api"
)

// names are the operations' names, each at its number.
var names = [...]string{
	api.OpNeg:   "neg",
	api.OpNot:   "not",
	api.OpAbs:   "abs",
	api.OpOnes:  "ones",
	api.OpLead:  "lead",
	api.OpTrail: "trail",
	api.OpFlip:  "flip",
	api.OpBool:  "bool",
	api.OpNo:    "no",
	api.OpI8:    "i8",
	api.OpI16:   "i16",
	api.OpI32:   "i32",
	api.OpU8:    "u8",
	api.OpU16:   "u16",
	api.OpU32:   "u32",
	api.OpAdd:   "add",
	api.OpSub:   "sub",
	api.OpMul:   "mul",
	api.OpDiv:   "div",
	api.OpRem:   "rem",
	api.OpAnd:   "and",
	api.OpOr:    "or",
	api.OpXor:   "xor",
	api.OpClear: "clear",
	api.OpShl:   "shl",
	api.OpShr:   "shr",
	api.OpUshr:  "ushr",
	api.OpRotl:  "rotl",
	api.OpEq:    "eq",
	api.OpNe:    "ne",
	api.OpLt:    "lt",
	api.OpLe:    "le",
	api.OpUlt:   "ult",
	api.OpMin:   "min",
	api.OpMax:   "max",
	api.OpHigh:  "high",
}

// Arity is how many operands an operation of numbers has.
func Arity(op api.Op) int {
	switch {
	case op < api.OpNeg || op > api.LastTwo:
		return 0
	case op <= api.LastOne:
		return 1
	}
	return 2
}

// Name is an operation's name.
func Name(op api.Op) string {
	if Arity(op) == 0 {
		return ""
	}
	return names[op]
}

// Named is the operation of a name.
func Named(s string) (api.Op, bool) {
	// 0 is no operation, and its empty text no name.
	for op := api.OpNeg; op <= api.LastTwo; op++ {
		if names[op] == s {
			return op, true
		}
	}
	return 0, false
}

// Text is a number's text.
func Text(x int64) string { return strconv.FormatInt(x, 10) }

// Parse is the number of a text.
func Parse(s string) (int64, api.Errno) {
	if len(s) > api.MaxBytes {
		return 0, api.ErrLong
	}
	if digits, ok := strings.CutPrefix(s, "0x"); ok {
		return parseBits(digits)
	}
	x, err := strconv.ParseInt(s, 10, 64)
	// the library also reads +1, -0 and 007, which are no number's text.
	if err != nil || Text(x) != s {
		return 0, api.ErrDigits
	}
	return x, api.OK
}

// parseBits is the word whose bits stand in digits to the base 16.
func parseBits(digits string) (int64, api.Errno) {
	// noughts ahead count as digits, so the library's own limit is not enough.
	if len(digits) > 16 {
		return 0, api.ErrDigits
	}
	x, err := strconv.ParseUint(digits, 16, 64)
	if err != nil {
		return 0, api.ErrDigits
	}
	return int64(x), api.OK
}
