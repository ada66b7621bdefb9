package code_test

import (
	"math"
	"slices"
	"testing"

	"scarab/api"
	"scarab/code"
	"scarab/octet"
	"scarab/prog"
)

// encoded is a right program's bytes.
func encoded(t *testing.T, p api.Prog) []byte {
	t.Helper()
	b, e := code.Encode(p)
	if e != api.OK {
		t.Fatalf("Encode: %v", e)
	}
	return b
}

// 4.1: the chapter's first example.
func TestEncodeExample(t *testing.T) {
	want := summed([]byte{83, 67, 82, 66, 1, 0, 0, 0, 1, 0, 0, 0, 1, 45})
	if b := encoded(t, ends()); !slices.Equal(b, want) || len(b) != 18 {
		t.Errorf("%v", b)
	}
	if n, e := code.Length(ends()); n != 18 || e != api.OK {
		t.Errorf("Length: %d, %v", n, e)
	}
	if at, e := code.Where(ends(), 0, 0); at != 13 || e != api.OK {
		t.Errorf("Where: %d, %v", at, e)
	}
}

// 4.1: the bytes of a program with a thing of each kind, written out.
func TestEncodeSmall(t *testing.T) {
	want := slices.Concat([]byte{83, 67, 82, 66, 1},
		[]byte{2, 1, 1, 0, 255, 255, 255, 255, 255, 255, 255, 255, 255, 1}, // Vars
		[]byte{2, 2, 0, 3, 2},                            // Locks, Chans, how many Funcs
		[]byte{0, 3, 1, 2, 1, 1, 3, 1, 0, 0, 0, 4, 0, 5}, // main: Params, Regs, Selects, how many instructions
		[]byte{40, 1, 144, 3, 52, 0, 0, 2, 53, 0, 0, 1, 2, 62, 3, 1, 1, 61, 0},
		[]byte{2, 2, 0, 2, 64, 45})
	if b := encoded(t, small()); !slices.Equal(b, summed(want)) {
		t.Errorf("%v, not %v", b, summed(want))
	}
}

// 4.1: the bytes are those of the chapter's list, the length and the sum are theirs.
func TestEncode(t *testing.T) {
	for i, p := range programs() {
		b, want := encoded(t, p), fieldsOf(p).bytes()
		if !slices.Equal(b, summed(want)) {
			t.Errorf("%d: %v", i, b)
		}
		if n, e := code.Length(p); n != len(b) || e != api.OK {
			t.Errorf("%d: Length: %d, %v", i, n, e)
		}
		if s, e := code.Sum(p); s != octet.Sum(want) || e != api.OK {
			t.Errorf("%d: Sum: %d, %v", i, s, e)
		}
	}
}

// 4.1: of programs that are not right.
func TestEncodeErrors(t *testing.T) {
	falls := ends()
	falls.Funcs[0].Code[0].Op = api.OpYield
	negative := small()
	negative.Funcs[0].Regs = math.MinInt
	nowhere := ends()
	nowhere.Funcs[0].Code[0].Op = math.MinInt
	for i, p := range []api.Prog{{}, falls, negative, nowhere} {
		if b, e := code.Encode(p); len(b) != 0 || e != api.ErrProg {
			t.Errorf("%d: Encode: %v, %v", i, b, e)
		}
		if n, e := code.Length(p); n != 0 || e != api.ErrProg {
			t.Errorf("%d: Length: %d, %v", i, n, e)
		}
		if s, e := code.Sum(p); s != 0 || e != api.ErrProg {
			t.Errorf("%d: Sum: %d, %v", i, s, e)
		}
		for _, f := range []int{-1, 0, 9} {
			if at, e := code.Where(p, f, f); at != 0 || e != api.ErrProg {
				t.Errorf("%d: Where: %d, %v", i, at, e)
			}
		}
	}
}

// 4.1: places that are not there.
func TestWhereErrors(t *testing.T) {
	far := []int{math.MinInt, -1, 1 << 32, math.MaxInt}
	for _, x := range append(far, 2) {
		if at, e := code.Where(small(), x, 0); at != 0 || e != api.ErrArg {
			t.Errorf("function %d: %d, %v", x, at, e)
		}
	}
	for _, x := range append(far, 5) {
		if at, e := code.Where(small(), 0, x); at != 0 || e != api.ErrArg {
			t.Errorf("place %d: %d, %v", x, at, e)
		}
	}
	if at, e := code.Where(small(), 1, 2); at != 0 || e != api.ErrArg {
		t.Errorf("behind the last function's code: %d, %v", at, e)
	}
}

// 4.1, 4.3, 4.6: Where is where an instruction's Op stands; each of its bytes is its own, and no other byte is one's.
func TestWhereAndSpot(t *testing.T) {
	for i, p := range programs() {
		b := encoded(t, p)
		owner := map[int]api.Spot{}
		for f, fn := range p.Funcs {
			for pc, in := range fn.Code {
				var own fields
				own.instr(in)
				bytes := own.bytes()[5:]
				at, e := code.Where(p, f, pc)
				if e != api.OK || at+len(bytes) > len(b)-4 || !slices.Equal(b[at:at+len(bytes)], bytes) {
					t.Fatalf("%d: Where {%d %d}: %d, %v", i, f, pc, at, e)
				}
				for k := range bytes {
					if _, twice := owner[at+k]; twice {
						t.Fatalf("%d: {%d %d} stands at %d, where another one does", i, f, pc, at)
					}
					owner[at+k] = api.Spot{Func: f, PC: pc}
				}
			}
		}
		// each look reads the whole program: of the long ones some bytes must do.
		for at := -2; at < len(b)+3; at += 1 + len(b)/700 {
			want, owned := owner[at]
			if spot, ok := code.Spot(b, at); spot != want || ok != owned {
				t.Fatalf("%d: Spot %d: %v, %v", i, at, spot, ok)
			}
		}
	}
}

// 4.6: Spot of Where.
func TestSpotOfWhere(t *testing.T) {
	for _, p := range []api.Prog{ends(), small()} {
		b := encoded(t, p)
		for f, fn := range p.Funcs {
			for pc := range fn.Code {
				at, _ := code.Where(p, f, pc)
				if spot, ok := code.Spot(b, at); !ok || spot != (api.Spot{Func: f, PC: pc}) {
					t.Errorf("{%d %d} at %d: %v, %v", f, pc, at, spot, ok)
				}
			}
		}
	}
}

// 4.3: of bytes that are no program's.
func TestSpotErrors(t *testing.T) {
	b := encoded(t, small())
	at, _ := code.Where(small(), 1, 1)
	turned := slices.Clone(b)
	turned[len(b)-1]++
	wrong := ends()
	wrong.Funcs[0].Code[0].Op = api.OpYield
	for i, x := range [][]byte{nil, b[:len(b)-1], append(slices.Clone(b), 0), turned, summed(fieldsOf(wrong).bytes()), make([]byte, api.MaxBytes+1)} {
		for _, place := range []int{at, 13, 0} {
			if spot, ok := code.Spot(x, place); spot != (api.Spot{}) || ok {
				t.Errorf("%d: %v, %v", i, spot, ok)
			}
		}
	}
	for _, place := range []int{math.MinInt, -1, len(b), math.MaxInt} {
		if spot, ok := code.Spot(b, place); spot != (api.Spot{}) || ok {
			t.Errorf("place %d: %v, %v", place, spot, ok)
		}
	}
}

// 4.1: what is handed in stays, and answers are new memory.
func TestMemory(t *testing.T) {
	p := small()
	a, b := encoded(t, p), encoded(t, p)
	clear(a)
	if !slices.Equal(b, encoded(t, small())) || !prog.Same(p, small()) {
		t.Error("two answers share their bytes")
	}
	kept := slices.Clone(b)
	q, _, _ := code.Decode(b)
	r, _, _ := code.Decode(b)
	clear(q.Vars)
	clear(q.Chans)
	clear(q.Funcs[0].Code)
	clear(q.Funcs[0].Selects[0].Cases)
	clear(q.Funcs)
	if !slices.Equal(b, kept) || !prog.Same(r, small()) {
		t.Error("two programs share their lists")
	}
}
