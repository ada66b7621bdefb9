package witness_test

import (
	"bytes"
	"math"
	"slices"
	"testing"

	"scarab/api"
	"scarab/code"
	"scarab/witness"
)

// 27.1: the bytes, written out.
func TestWrite(t *testing.T) {
	w := api.Witness{
		Sum:    0x01020304,
		Found:  api.Found{Kind: api.KindRace, A: api.Spot{Func: 1, PC: 2}, B: api.Spot{Func: 3, PC: 64}, Num: 200, Why: 9},
		Picks:  []api.Pick{{}, {Go: 5, Alt: 4}},
		Budget: api.Budget{Steps: 256, Fuel: 300, Runs: 65536},
	}
	want := summed([]byte{115, 99, 97, 119, 1, 2, 3, 4, 5, 1, 2, 3, 64, 200, 1, 9, 128, 2, 172, 2, 128, 128, 4, 2, 0, 0, 5, 4})
	if b, e := witness.Write(w); e != api.OK || !bytes.Equal(b, want) {
		t.Errorf("%v %v, not %v", b, e, want)
	}
	w = api.Witness{Sum: math.MaxUint32, Found: api.Found{Kind: api.KindAssert}}
	want = summed([]byte{115, 99, 97, 119, 255, 255, 255, 255, 1, 0, 0, 0, 0, 0, 0, 0, 0, 0, 0})
	if b, e := witness.Write(w); e != api.OK || !bytes.Equal(b, want) {
		t.Errorf("%v %v, not %v", b, e, want)
	}
}

// 27.1: the witness of a program.
func TestWriteOfProgram(t *testing.T) {
	p := parsed(t, twice)
	w, e := witness.Make(p, api.Finding{Found: deadlock, Picks: gos(0)}, api.Budget{Steps: 9, Fuel: 8, Runs: 7})
	if e != api.OK {
		t.Fatal(e)
	}
	b, _ := code.Encode(p)
	want := summed(slices.Concat([]byte("scaw"), b[len(b)-4:], []byte{3, 0, 1, 0, 0, 0, 0, 9, 8, 7, 1, 0, 0}))
	if b, e := witness.Write(w); e != api.OK || !bytes.Equal(b, want) {
		t.Errorf("%v %v, not %v", b, e, want)
	}
}

// 27.1, 27.2: by the chapter's words, of any right witnesses.
func TestModel(t *testing.T) {
	longest := 0
	for seed := range uint64(600) {
		w := sampled(seed)
		want := bytesOf(w)
		if b, e := witness.Write(w); e != api.OK || !bytes.Equal(b, want) {
			t.Errorf("%d: %v %v, not %v", seed, b, e, want)
		}
		if r, e, at := witness.Read(want); e != api.OK || at != 0 || !same(r, w) {
			t.Errorf("%d: %v %v %d, not %v", seed, r, e, at, w)
		}
		longest = max(longest, len(w.Picks))
	}
	if longest != api.MaxSteps {
		t.Errorf("at most %d picks", longest)
	}
}

// edges are a witness with one of its numbers changed, for each of them, with its least and its greatest value.
func edges() []struct {
	set         func(w *api.Witness, x int)
	least, most int
} {
	return []struct {
		set         func(w *api.Witness, x int)
		least, most int
	}{
		{func(w *api.Witness, x int) { w.Found.Kind = x }, 1, 5},
		{func(w *api.Witness, x int) { w.Found.A.Func = x }, 0, 64},
		{func(w *api.Witness, x int) { w.Found.A.PC = x }, 0, 64},
		{func(w *api.Witness, x int) { w.Found.B.Func = x }, 0, 64},
		{func(w *api.Witness, x int) { w.Found.B.PC = x }, 0, 64},
		{func(w *api.Witness, x int) { w.Found.Num = x }, 0, 255},
		{func(w *api.Witness, x int) { w.Found.Why = x }, 0, 255},
		{func(w *api.Witness, x int) { w.Budget.Steps = x }, 0, 256},
		{func(w *api.Witness, x int) { w.Budget.Fuel = x }, 0, 4096},
		{func(w *api.Witness, x int) { w.Budget.Runs = x }, 0, 65536},
		{func(w *api.Witness, x int) { w.Picks[0].Go = x }, 0, 5},
		{func(w *api.Witness, x int) { w.Picks[2].Go = x }, 0, 5},
		{func(w *api.Witness, x int) { w.Picks[0].Alt = x }, 0, 4},
		{func(w *api.Witness, x int) { w.Picks[2].Alt = x }, 0, 4},
	}
}

// 27.1, 27.3: a number that is out of its range makes a witness wrong, one at its edge does not.
func TestRight(t *testing.T) {
	p := parsed(t, twice)
	sum, _ := code.Sum(p)
	for i, x := range edges() {
		for _, n := range append(slices.Clone(far), x.least-1, x.least, x.most, x.most+1) {
			w := api.Witness{Sum: sum, Found: deadlock, Picks: gos(1, 2, 3), Budget: plenty}
			x.set(&w, n)
			right := n >= x.least && n <= x.most
			b, e := witness.Write(w)
			if right && (e != api.OK || !bytes.Equal(b, bytesOf(w))) || !right && (e != api.ErrArg || len(b) > 0) {
				t.Errorf("%d: Write with %d: %v %v", i, n, b, e)
			}
			if r, e := witness.Replay(p, w); (e == api.ErrArg) == right || e == api.OK || len(r.Events) > 0 {
				t.Errorf("%d: Replay with %d: %v %v", i, n, r, e)
			}
		}
	}
}

// 27.1, 27.3: as many picks as there may be, and more.
func TestManyPicks(t *testing.T) {
	p := parsed(t, twice)
	sum, _ := code.Sum(p)
	for _, n := range []int{0, 1, 255, 256, 257, 258, 1 << 12} {
		w := api.Witness{Sum: sum, Found: deadlock, Picks: make([]api.Pick, n), Budget: plenty}
		right := n <= api.MaxSteps
		b, e := witness.Write(w)
		if right && (e != api.OK || !bytes.Equal(b, bytesOf(w))) || !right && (e != api.ErrArg || len(b) > 0) {
			t.Errorf("Write of %d: %d bytes, %v", n, len(b), e)
		}
		if _, e := witness.Replay(p, w); (e == api.ErrArg) == right {
			t.Errorf("Replay of %d: %v", n, e)
		}
	}
}
