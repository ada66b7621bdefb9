package code_test

import (
	"math"
	"slices"
	"testing"

	"scarab/api"
	"scarab/code"
	"scarab/octet"
	"scarab/prog"
)

// refused asks what Decode says of bytes that are no program's.
func refused(t *testing.T, what string, b []byte, want api.Errno, place int) {
	t.Helper()
	p, e, at := code.Decode(b)
	if e != want || at != place || !prog.Same(p, api.Prog{}) {
		t.Errorf("%s: %v at %d, not %v at %d", what, e, at, want, place)
	}
}

// 4.2: the chapter's examples.
func TestDecodeExamples(t *testing.T) {
	b := encoded(t, ends())
	five := b[:5:5]
	refused(t, "nothing", nil, api.ErrMagic, 0)
	refused(t, "the five bytes alone", five, api.ErrShort, 5)
	refused(t, "and 9", append(five, 9), api.ErrSize, 5)
	refused(t, "and 1 2", append(five, 1, 2), api.ErrForm, 6)
	op := slices.Clone(b)
	op[13] = 46
	refused(t, "46", op, api.ErrOp, 13)
	refused(t, "a 0 behind", append(slices.Clone(b), 0), api.ErrRest, 18)
	op[13] = 64
	refused(t, "yield", summed(op[:14]), api.ErrFall, 0)
}

// 4.2: the beginning.
func TestDecodeMagic(t *testing.T) {
	b := encoded(t, small())
	for n := range 5 {
		refused(t, "too short", b[:n], api.ErrMagic, 0)
		other := slices.Clone(b)
		other[n] ^= 128
		refused(t, "another one", other, api.ErrMagic, 0)
		refused(t, "another one, summed", summed(other[:len(b)-4]), api.ErrMagic, 0)
	}
}

// 4.2: too many bytes are told first of all.
func TestDecodeLong(t *testing.T) {
	b := encoded(t, ends())
	long := append(slices.Clone(b), make([]byte, api.MaxBytes)...)
	refused(t, "MaxBytes", long[:api.MaxBytes], api.ErrRest, 18)
	refused(t, "one more", long[:api.MaxBytes+1], api.ErrLong, 0)
	refused(t, "of noughts", make([]byte, api.MaxBytes), api.ErrMagic, 0)
	refused(t, "of one more nought", make([]byte, api.MaxBytes+1), api.ErrLong, 0)
}

// 4.2: each number in turn: what chapter 1 says of it, and what may not stand there, at the place where it begins.
func TestDecodeNumbers(t *testing.T) {
	for _, p := range []api.Prog{ends(), small()} {
		all := fieldsOf(p)
		for i, f := range all {
			ahead, behind := all[:i].bytes(), all[i+1:].bytes()[5:]
			with := func(number ...byte) []byte { return summed(slices.Concat(ahead, number, behind)) }
			at := len(ahead)
			refused(t, "none", ahead, api.ErrShort, at)
			refused(t, "half of one", append(slices.Clone(ahead), 128), api.ErrShort, at)
			refused(t, "padded", with(129, 0), api.ErrPad, at)
			refused(t, "padded by two", with(129, 128, 0), api.ErrPad, at)
			refused(t, "too wide", with(255, 255, 255, 255, 255, 255, 255, 255, 255, 2), api.ErrWide, at)
			for x, e := range wrongNumbers(f) {
				refused(t, "wrong "+string(f.kind), with(octet.Put(nil, x)...), e, at)
			}
		}
	}
}

// wrongNumbers are numbers that may not stand in a field, and what is told of them.
func wrongNumbers(f field) map[uint64]api.Errno {
	switch f.kind {
	case 'c':
		return map[uint64]api.Errno{f.most + 1: api.ErrSize, 128: api.ErrSize, 1 << 31: api.ErrSize, 1 << 32: api.ErrSize, math.MaxUint64: api.ErrSize}
	case 'f':
		return map[uint64]api.Errno{2: api.ErrForm, 255: api.ErrForm, 1 << 31: api.ErrForm, 1<<32 + 1: api.ErrForm, math.MaxUint64: api.ErrForm}
	case 'n':
		return map[uint64]api.Errno{1 << 31: api.ErrForm, 1 << 32: api.ErrForm, 1 << 63: api.ErrForm, math.MaxUint64: api.ErrForm}
	case 'o':
		out := map[uint64]api.Errno{1 << 31: api.ErrForm, 1<<32 + 45: api.ErrForm, math.MaxUint64: api.ErrForm}
		for _, x := range []uint64{0, 37, 38, 39, 46, 49, 66, 67, 256 + 45, 1<<31 - 1} {
			out[x] = api.ErrOp
		}
		return out
	}
	return nil
}

// 4.2: how many there are may be up to the limit: what is wrong then comes behind it.
func TestDecodeCounts(t *testing.T) {
	for _, p := range []api.Prog{ends(), small()} {
		all := fieldsOf(p)
		for i, f := range all {
			if f.kind == 'c' {
				b := append(all[:i].bytes(), byte(f.most))
				refused(t, "up to the limit", b, api.ErrShort, len(b))
			}
		}
	}
}

// 4.2: of numbers that may stand there, but are not right, the program's own error is told, and no place.
func TestDecodeCheck(t *testing.T) {
	const most = math.MaxInt32
	for _, c := range []struct {
		want  api.Errno
		wrong func(p *api.Prog)
	}{
		{api.ErrSize, func(p *api.Prog) { p.Locks = 5 }},
		{api.ErrSize, func(p *api.Prog) { p.Locks = most }},
		{api.ErrSize, func(p *api.Prog) { p.Funcs = nil }},
		{api.ErrCap, func(p *api.Prog) { p.Chans[1] = most }},
		{api.ErrFunc, func(p *api.Prog) { p.Funcs[0].Regs = most }},
		{api.ErrFunc, func(p *api.Prog) { p.Funcs[1].Regs = most }},
		{api.ErrReg, func(p *api.Prog) { p.Funcs[1].Params = most }}, // of which main's spawn has not so many
		{api.ErrFunc, func(p *api.Prog) { p.Funcs[1].Code = nil }},
		{api.ErrFunc, func(p *api.Prog) { p.Funcs[0].Selects[0].Cases = nil }},
		{api.ErrObj, func(p *api.Prog) { p.Funcs[0].Selects[0].Cases[0].Chan = most }},
		{api.ErrReg, func(p *api.Prog) { p.Funcs[0].Selects[0].Cases[0].Reg = -1 }},
		{api.ErrReg, func(p *api.Prog) { p.Funcs[0].Selects[0].Cases[1].Reg = most - 1 }},
		{api.ErrTarget, func(p *api.Prog) { p.Funcs[0].Selects[0].Cases[0].To = most }},
		{api.ErrTarget, func(p *api.Prog) { p.Funcs[0].Selects[0].Else = most - 1 }},
		{api.ErrReg, func(p *api.Prog) { p.Funcs[0].Code[1].A = most - 1 }},
		{api.ErrKind, func(p *api.Prog) { p.Funcs[0].Code[1].B = 1 }},
		{api.ErrReg, func(p *api.Prog) { p.Funcs[0].Code[2].N = most }},
		{api.ErrObj, func(p *api.Prog) { p.Funcs[0].Code[3].B = most }},
		{api.ErrFall, func(p *api.Prog) { p.Funcs[1].Code[1].Op = api.OpYield }},
	} {
		p := small()
		c.wrong(&p)
		refused(t, "not right", summed(fieldsOf(p).bytes()), c.want, 0)
		refused(t, "not right, nor is the sum", append(fieldsOf(p).bytes(), 0, 0, 0, 0), api.ErrSum, len(fieldsOf(p).bytes()))
	}
}

// 4.2: the end: too few bytes for the sum, another sum, something behind it.
func TestDecodeEnd(t *testing.T) {
	for _, p := range []api.Prog{ends(), small()} {
		b := encoded(t, p)
		at := len(b) - 4
		for n := at; n < len(b); n++ {
			refused(t, "too short", b[:n], api.ErrShort, at)
		}
		for i := range 32 {
			other := slices.Clone(b)
			other[at+i/8] ^= 1 << (i % 8)
			refused(t, "another sum", other, api.ErrSum, at)
			refused(t, "another sum, and more", append(other, 0), api.ErrSum, at)
		}
		refused(t, "more", append(slices.Clone(b), 1), api.ErrRest, len(b))
		refused(t, "twice", append(slices.Clone(b), b...), api.ErrRest, len(b))
	}
}

// 4.4: there and back.
func TestThereAndBack(t *testing.T) {
	for i, p := range programs() {
		b := encoded(t, p)
		q, e, at := code.Decode(b)
		if e != api.OK || at != 0 || !prog.Same(p, q) {
			t.Fatalf("%d: %v at %d", i, e, at)
		}
		if again := encoded(t, q); !slices.Equal(b, again) {
			t.Errorf("%d: there again it is another one", i)
		}
	}
}

// 4.4: what is read from any bytes is right, and those bytes are its own. The bytes are a program's with some of
// them changed, and the sum made right.
func TestBackAndThere(t *testing.T) {
	read := 0
	for _, p := range []api.Prog{ends(), small()} {
		b := encoded(t, p)
		for i := range len(b) - 4 {
			for x := range 256 {
				other := slices.Clone(b[:len(b)-4])
				other[i] = byte(x)
				other = summed(other)
				q, e, at := code.Decode(other)
				if e != api.OK {
					continue
				}
				read++
				if wrong, _ := prog.Check(q); wrong != api.OK || at != 0 {
					t.Fatalf("byte %d as %d: %v at %d", i, x, wrong, at)
				}
				if again := encoded(t, q); !slices.Equal(other, again) {
					t.Fatalf("byte %d as %d: read from %v, written as %v", i, x, other, again)
				}
			}
		}
	}
	if read < 100 {
		t.Errorf("only %d were read", read)
	}
}

// 4.5: a byte that is another one is told.
func TestTurnedByte(t *testing.T) {
	for _, p := range []api.Prog{ends(), small()} {
		b := encoded(t, p)
		for i := range b {
			for x := 1; x < 256; x++ {
				other := slices.Clone(b)
				other[i] ^= byte(x)
				if q, e, _ := code.Decode(other); e == api.OK || !prog.Same(q, api.Prog{}) {
					t.Fatalf("byte %d turned by %d: %v", i, x, e)
				}
			}
		}
	}
}
