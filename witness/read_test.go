package witness_test

import (
	"encoding/binary"
	"math"
	"slices"
	"testing"

	"scarab/api"
	"scarab/witness"
)

// refused asks what Read says of bytes that are no witness.
func refused(t *testing.T, what string, b []byte, want api.Errno, place int) {
	t.Helper()
	w, e, at := witness.Read(b)
	if e != want || at != place || !same(w, api.Witness{}) {
		t.Errorf("%s: %v, %v at %d, not %v at %d", what, w, e, at, want, place)
	}
}

// 27.2: the beginning, and too few bytes.
func TestReadBeginning(t *testing.T) {
	refused(t, "nothing", nil, api.ErrMagic, 0)
	refused(t, "nothing", []byte{}, api.ErrMagic, 0)
	refused(t, "the bytes of scaw alone", []byte("scaw"), api.ErrShort, 4)
	b := bytesOf(sampled(3))
	for n := range 12 {
		if n < 4 {
			refused(t, "too short to be one", b[:n], api.ErrMagic, 0)
			other := slices.Clone(b)
			other[n] ^= 1
			refused(t, "another beginning", other, api.ErrMagic, 0)
			refused(t, "another beginning, summed", summed(other[:len(b)-4]), api.ErrMagic, 0)
			refused(t, "another beginning, short", other[:4], api.ErrMagic, 0)
		} else {
			refused(t, "too short", b[:n], api.ErrShort, n)
		}
		if n >= 4 && n < 8 {
			refused(t, "too short, summed", summed(b[:n]), api.ErrShort, n+4)
		}
	}
	refused(t, "twelve", b[:12], api.ErrSum, 8)
	refused(t, "no number, summed", summed(b[:8]), api.ErrShort, 8)
	refused(t, "upper case", summed([]byte("SCAW....")), api.ErrMagic, 0)
}

// 27.2: too many bytes are told first of all.
func TestReadLong(t *testing.T) {
	b := bytesOf(sampled(5))
	ahead := b[:len(b)-4]
	long := summed(append(slices.Clone(ahead), make([]byte, api.MaxBytes-len(b))...))
	refused(t, "MaxBytes", long, api.ErrRest, len(ahead))
	refused(t, "MaxBytes without a sum", make([]byte, api.MaxBytes), api.ErrMagic, 0)
	refused(t, "one more", summed(append(slices.Clone(ahead), make([]byte, api.MaxBytes-len(b)+1)...)), api.ErrLong, 0)
	refused(t, "one more of noughts", make([]byte, api.MaxBytes+1), api.ErrLong, 0)
	refused(t, "far more", make([]byte, 1<<20), api.ErrLong, 0)
}

// 27.2: a wrong sum is told ahead of all that is wrong with the numbers, at the place of the last four bytes.
func TestReadSum(t *testing.T) {
	for seed := range uint64(60) {
		b := bytesOf(sampled(seed))
		for n := 1; n <= 4; n++ {
			other := slices.Clone(b)
			other[len(b)-n] ^= 1 << (seed % 8)
			refused(t, "another sum", other, api.ErrSum, len(b)-4)
		}
		refused(t, "a byte behind it", append(slices.Clone(b), 7), api.ErrSum, len(b)-3)
		refused(t, "one fewer", b[:len(b)-1], api.ErrSum, len(b)-5)
		refused(t, "no number", append(slices.Clone(b[:8]), 128, 1, 2, 3, 4), api.ErrSum, 9)
		reversed := slices.Clone(b)
		slices.Reverse(reversed[len(b)-4:])
		if sum := b[len(b)-4:]; sum[0] != sum[3] || sum[1] != sum[2] {
			refused(t, "the lowest byte first", reversed, api.ErrSum, len(b)-4)
		}
	}
}

// 27.2: each number in turn: what chapter 1 says of it, and what is out of its range, at the place where it begins.
func TestReadNumbers(t *testing.T) {
	for seed := range uint64(40) {
		w := sampled(seed)
		w.Picks = w.Picks[:min(len(w.Picks), 6)]
		all := fieldsOf(w)
		for i, f := range all {
			ahead := slices.Concat(headBytes(w), numberBytes(all[:i]))
			behind := numberBytes(all[i+1:])
			with := func(number ...byte) []byte { return summed(slices.Concat(ahead, number, behind)) }
			at := len(ahead)
			refused(t, "none", summed(ahead), api.ErrShort, at)
			refused(t, "half of one", summed(append(slices.Clone(ahead), 129)), api.ErrShort, at)
			refused(t, "padded", with(byte(f.least)|128, 0), api.ErrPad, at)
			refused(t, "padded by two", with(129, 128, 0), api.ErrPad, at)
			refused(t, "too wide", with(255, 255, 255, 255, 255, 255, 255, 255, 255, 2), api.ErrWide, at)
			for _, x := range []uint64{uint64(f.most) + 1, 1 << 17, 1 << 31, 1<<32 + 1, math.MaxInt64, 1<<63 + 1, math.MaxUint64} {
				refused(t, "too great", with(binary.AppendUvarint(nil, x)...), api.ErrArg, at)
			}
			if f.least > 0 {
				refused(t, "too small", with(0), api.ErrArg, at)
			}
		}
		rest := numberBytes(all)
		at := 8 + len(rest)
		refused(t, "a byte left", summed(slices.Concat(headBytes(w), rest, []byte{0})), api.ErrRest, at)
		refused(t, "half a number left", summed(slices.Concat(headBytes(w), rest, []byte{128, 128})), api.ErrRest, at)
	}
}

// 27.2: of several that are wrong the first one is told; a number that may not stand there ahead of what comes behind it.
func TestReadFirst(t *testing.T) {
	head := headBytes(api.Witness{Sum: 7})
	of := func(l ...byte) []byte { return summed(append(slices.Clone(head), l...)) }
	refused(t, "a kind, and nothing behind it", of(6), api.ErrArg, 8)
	refused(t, "a kind, and none", of(0, 128), api.ErrArg, 8)
	refused(t, "a place, and a padded one", of(1, 65, 128, 0), api.ErrArg, 9)
	refused(t, "a padded place, and a wrong one", of(1, 128, 0, 65), api.ErrPad, 9)
	refused(t, "more picks than bytes", of(1, 0, 0, 0, 0, 0, 0, 0, 0, 0, 2, 0, 0), api.ErrShort, 21)
	refused(t, "far more picks", of(1, 0, 0, 0, 0, 0, 0, 0, 0, 0, 129, 2), api.ErrArg, 18)
	refused(t, "as many picks as may be", of(1, 0, 0, 0, 0, 0, 0, 0, 0, 0, 128, 2), api.ErrShort, 20)
	refused(t, "fewer picks than bytes", of(1, 0, 0, 0, 0, 0, 0, 0, 0, 0, 1, 0, 0, 0, 0), api.ErrRest, 21)
	refused(t, "a goroutine, and no alternative", of(1, 0, 0, 0, 0, 0, 0, 0, 0, 0, 1, 6, 9), api.ErrArg, 19)
	refused(t, "an alternative", of(1, 0, 0, 0, 0, 0, 0, 0, 0, 0, 1, 5, 5), api.ErrArg, 20)
}

// 27.4, P9: Read of Write is the witness, Write of Read the bytes.
func TestThereAndBack(t *testing.T) {
	for seed := range uint64(600) {
		w := sampled(seed)
		b := written(t, w)
		r, e, at := witness.Read(b)
		if e != api.OK || at != 0 || !same(r, w) {
			t.Errorf("%d: %v %v %d, not %v", seed, r, e, at, w)
		}
		if again := written(t, r); !slices.Equal(again, b) {
			t.Errorf("%d: %v, not %v", seed, again, b)
		}
	}
}

// 27.4: what is read from any bytes is written as they are: no two of them say the same.
func TestOneForm(t *testing.T) {
	read := 0
	for seed := range uint64(4000) {
		b := bytesOf(sampled(seed % 50))
		b = b[:len(b)-4]
		// a byte among the numbers is another one, and the sum is right.
		b[8+int(seed*31)%(len(b)-8)] = byte(seed * 7)
		b = summed(b)
		w, e, _ := witness.Read(b)
		if e != api.OK {
			continue
		}
		read++
		if again := written(t, w); !slices.Equal(again, b) {
			t.Errorf("%d: %v, not %v", seed, again, b)
		}
	}
	if read < 300 {
		t.Errorf("read %d", read)
	}
}

// 27.5: a witness of which one byte is another one is not read.
func TestTurnedByte(t *testing.T) {
	for seed := range uint64(12) {
		w := sampled(seed)
		w.Picks = w.Picks[:min(len(w.Picks), 8)]
		b := bytesOf(w)
		for i := range b {
			for x := range 255 {
				other := slices.Clone(b)
				other[i] += byte(x + 1)
				if w, e, _ := witness.Read(other); e == api.OK || !same(w, api.Witness{}) {
					t.Errorf("%d: with %d at %d: %v %v", seed, other[i], i, w, e)
				}
			}
		}
	}
}
