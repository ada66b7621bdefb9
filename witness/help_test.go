package witness_test

import (
	"encoding/binary"
	"hash/crc32"
	"math"
	"slices"
	"testing"

	"scarab/api"
	"scarab/asm"
	"scarab/sample"
	"scarab/sched"
	"scarab/verdict"
	"scarab/witness"
)

// far are numbers that are out of all ranges.
var far = []int{math.MinInt, math.MinInt32, -2, -1, 1 << 17, 1 << 32, math.MaxInt - 1, math.MaxInt}

// plenty is a budget that is enough for all small programs that end.
var plenty = api.Budget{Steps: 40, Fuel: 50, Runs: 1000}

// Programs that are gone through often.
const (
	// main locks a lock twice.
	twice = "scarab\nmutex\nfunc 0 0\nlock l0\nlock l0\nend"
	// main spawns one, and both store to one plain variable.
	stores = "scarab\nvar 0\nfunc 0 1\nspawn _ f1 r0\nstore v0 r0\nend\nfunc 0 1\nstore v0 r0\nend"
)

var (
	deadlock = api.Found{Kind: api.KindDeadlock, A: api.Spot{PC: 1}}
	race     = api.Found{Kind: api.KindRace, A: api.Spot{PC: 1}, B: api.Spot{Func: 1}}
)

// parsed is the program of a text.
func parsed(t *testing.T, text string) api.Prog {
	t.Helper()
	p, e, line := asm.Parse(text)
	if e != api.OK {
		t.Fatalf("%v in line %d of %s", e, line, text)
	}
	return p
}

// gos are picks of goroutines, each by its alternative 0.
func gos(l ...int) []api.Pick {
	var picks []api.Pick
	for _, g := range l {
		picks = append(picks, api.Pick{Go: g})
	}
	return picks
}

// summed are bytes with their sum behind them.
func summed(b []byte) []byte {
	return binary.BigEndian.AppendUint32(slices.Clone(b), crc32.ChecksumIEEE(b))
}

// field is a number of a witness, with the range that the chapter names.
type field struct {
	value, least, most int
}

// fieldsOf are a witness's numbers, in the order of its bytes, by the chapter's words.
func fieldsOf(w api.Witness) []field {
	f, b := w.Found, w.Budget
	l := []field{
		{f.Kind, 1, 5}, {f.A.Func, 0, 64}, {f.A.PC, 0, 64}, {f.B.Func, 0, 64}, {f.B.PC, 0, 64}, {f.Num, 0, 255}, {f.Why, 0, 255},
		{b.Steps, 0, 256}, {b.Fuel, 0, 4096}, {b.Runs, 0, 65536}, {len(w.Picks), 0, 256},
	}
	for _, pick := range w.Picks {
		l = append(l, field{pick.Go, 0, 5}, field{pick.Alt, 0, 4})
	}
	return l
}

// headBytes are the bytes of a witness ahead of its numbers.
func headBytes(w api.Witness) []byte {
	return binary.BigEndian.AppendUint32([]byte{115, 99, 97, 119}, w.Sum)
}

// numberBytes are numbers in bytes.
func numberBytes(l []field) []byte {
	var b []byte
	for _, f := range l {
		b = binary.AppendUvarint(b, uint64(f.value))
	}
	return b
}

// bytesOf are a witness's bytes, by the chapter's words.
func bytesOf(w api.Witness) []byte {
	return summed(slices.Concat(headBytes(w), numberBytes(fieldsOf(w))))
}

// same tells whether two witnesses say the same.
func same(a, b api.Witness) bool {
	return a.Sum == b.Sum && a.Found == b.Found && slices.Equal(a.Picks, b.Picks) && a.Budget == b.Budget
}

// sampled is a right witness, be it of a program or not; more often than not with some number at an edge.
func sampled(seed uint64) api.Witness {
	draw := func(least, most int) int {
		seed += 1 << 32
		switch n := sample.Choices(seed, 4)[3] & math.MaxInt; n % 5 {
		case 0:
			return least
		case 1:
			return most
		default:
			return least + n%(most-least+1)
		}
	}
	var w api.Witness
	w.Sum = uint32(draw(0, math.MaxUint32))
	w.Found = api.Found{Kind: draw(1, 5), A: api.Spot{Func: draw(0, 64), PC: draw(0, 64)}, B: api.Spot{Func: draw(0, 64), PC: draw(0, 64)}, Num: draw(0, 255), Why: draw(0, 255)}
	w.Budget = api.Budget{Steps: draw(0, 256), Fuel: draw(0, 4096), Runs: draw(0, 65536)}
	for range min(draw(0, 256), draw(0, 256), draw(0, 256)) {
		w.Picks = append(w.Picks, api.Pick{Go: draw(0, 5), Alt: draw(0, 4)})
	}
	return w
}

// written are the bytes of a right witness.
func written(t *testing.T, w api.Witness) []byte {
	t.Helper()
	b, e := witness.Write(w)
	if e != api.OK {
		t.Fatalf("%v: %v", w, e)
	}
	return b
}

// task is a program, and something that was found in it, by a budget.
type task struct {
	p api.Prog
	f api.Finding
	b api.Budget
}

// tasks are sampled programs, with picks that show something.
func tasks(t *testing.T, n uint64) []task {
	t.Helper()
	var l []task
	for seed := range n {
		p := sample.Small(seed)
		switch seed % 8 {
		case 3:
			p = sample.Prog(seed)
		case 1, 5:
			p = sample.Racy(seed)
		}
		b := api.Budget{Steps: int(seed*5%31) + 1, Fuel: int(seed * 7 % 31), Runs: int(seed)}
		picks, e := sched.Choose(p, sample.Choices(seed, int(seed*5%31)), b)
		if e != api.OK {
			t.Fatal(e)
		}
		found, e := verdict.Of(p, picks, b)
		if e != api.OK {
			t.Fatal(e)
		}
		for _, f := range found {
			l = append(l, task{p, api.Finding{Found: f, Picks: picks}, b})
		}
	}
	return l
}

// spoil makes all members of a list, and its spare room, something else.
func spoil[T any](l []T, odd T) {
	l = l[:cap(l)]
	for i := range l {
		l[i] = odd
	}
}
