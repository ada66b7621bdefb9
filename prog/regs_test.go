package prog_test

import (
	"slices"
	"testing"

	"scarab/api"
	"scarab/prog"
	"scarab/sample"
)

// touch asks what an instruction reads and sets.
func touch(t *testing.T, p api.Prog, f, pc int, reads, sets []int) {
	t.Helper()
	got, e := prog.Reads(p, f, pc)
	if e != api.OK || !slices.Equal(got, reads) {
		t.Errorf("Reads of %v: %v, %v, not %v", p.Funcs[f].Code[pc], got, e, reads)
	}
	got, e = prog.Sets(p, f, pc)
	if e != api.OK || !slices.Equal(got, sets) {
		t.Errorf("Sets of %v: %v, %v, not %v", p.Funcs[f].Code[pc], got, e, sets)
	}
}

// 3.4: each kind of operation.
func TestTouched(t *testing.T) {
	for op, c := range map[api.Op]struct{ reads, sets []int }{
		api.OpNeg:    {[]int{2}, []int{1}},
		api.OpAdd:    {[]int{2, 3}, []int{1}},
		api.OpConst:  {nil, []int{1}},
		api.OpMove:   {[]int{2}, []int{1}},
		api.OpJump:   {},
		api.OpIf:     {[]int{1}, nil},
		api.OpAssert: {[]int{1}, nil},
		api.OpEnd:    {},
		api.OpLoad:   {nil, []int{1}},
		api.OpStore:  {[]int{2}, nil},
		api.OpBump:   {[]int{2}, []int{1}},
		api.OpCas:    {[]int{2, 3}, []int{1}},
		api.OpAwait:  {[]int{2}, nil},
		api.OpLock:   {},
		api.OpUnlock: {},
		api.OpTry:    {nil, []int{1}},
		api.OpSend:   {[]int{2}, nil},
		api.OpRecv:   {nil, []int{1, 2}},
		api.OpClose:  {},
		api.OpSelect: {[]int{2}, []int{1, 3}},
		api.OpSpawn:  {[]int{2, 3}, []int{1}},
		api.OpJoin:   {[]int{1}, nil},
		api.OpYield:  {},
		api.OpNote:   {[]int{1}, nil},
	} {
		touch(t, whole(), 0, at(op), c.reads, c.sets)
	}
}

// 3.4: every operation of numbers.
func TestTouchedByNumbers(t *testing.T) {
	for op := api.OpNeg; op <= api.LastOne; op++ {
		touch(t, one(3, api.Instr{Op: op, A: 2, B: 1}, end()), 0, 0, []int{1}, []int{2})
	}
	for op := api.LastOne + 1; op <= api.LastTwo; op++ {
		touch(t, one(3, api.Instr{Op: op, A: 2, B: 1, C: 0}, end()), 0, 0, []int{0, 1}, []int{2})
	}
}

// 3.4: each register once, rising, whatever the order in which the instruction names them.
func TestTouchedOnce(t *testing.T) {
	for _, c := range []struct {
		in          api.Instr
		reads, sets []int
	}{
		{api.Instr{Op: api.OpAdd, A: 1, B: 3, C: 2}, []int{2, 3}, []int{1}},
		{api.Instr{Op: api.OpAdd, A: 1, B: 1, C: 1}, []int{1}, []int{1}},
		{api.Instr{Op: api.OpCas, A: 4, B: 1, C: 3, N: 0}, []int{0, 3}, []int{4}},
		{api.Instr{Op: api.OpCas, A: 2, B: 1, C: 2, N: 2}, []int{2}, []int{2}},
		{api.Instr{Op: api.OpRecv, A: 3, B: 1, C: 0}, nil, []int{0, 3}},
		{api.Instr{Op: api.OpRecv, A: 3, B: 1, C: 3}, nil, []int{3}},
		{api.Instr{Op: api.OpRecv, A: -1, B: 1, C: 3}, nil, []int{3}},
		{api.Instr{Op: api.OpRecv, A: 3, B: 1, C: -1}, nil, []int{3}},
		{api.Instr{Op: api.OpRecv, A: -1, B: 1, C: -1}, nil, nil},
		{api.Instr{Op: api.OpBump, A: -1, B: 1, C: 4}, []int{4}, nil},
		{api.Instr{Op: api.OpSpawn, A: -1, B: 1, C: 3}, []int{3, 4}, nil},
		{api.Instr{Op: api.OpSpawn, A: 0, B: 2}, nil, []int{0}},
		{api.Instr{Op: api.OpSpawn, A: 4, B: 1, C: 3}, []int{3, 4}, []int{4}},
		{api.Instr{Op: api.OpSelect, A: 0}, nil, nil},
		{api.Instr{Op: api.OpSelect, A: 2}, []int{0}, nil},
	} {
		p := whole()
		p.Funcs[0].Code[0] = c.in
		touch(t, p, 0, 0, c.reads, c.sets)
	}
	p := whole()
	p.Funcs[0].Selects[1].Cases = []api.Case{{Send: true, Chan: 1, Reg: 4}, {Chan: 1, Reg: 4}, {Send: true, Chan: 1, Reg: 4}, {Send: true, Chan: 2, Reg: 1}}
	touch(t, p, 0, at(api.OpSelect), []int{1, 4}, []int{4})
}

// 3.4: of a program that is not right, and of places that are not there.
func TestTouchedErrors(t *testing.T) {
	ask := func(p api.Prog, f, pc int, want api.Errno) {
		t.Helper()
		if got, e := prog.Reads(p, f, pc); e != want || len(got) != 0 {
			t.Errorf("Reads at {%d %d}: %v, %v", f, pc, got, e)
		}
		if got, e := prog.Sets(p, f, pc); e != want || len(got) != 0 {
			t.Errorf("Sets at {%d %d}: %v, %v", f, pc, got, e)
		}
	}
	for _, x := range append([]int{last + 1}, far...) {
		ask(whole(), x, 0, api.ErrArg)
		ask(whole(), 0, x, api.ErrArg)
		for _, p := range wrongs() {
			ask(p, x, 0, api.ErrProg)
			ask(p, 0, x, api.ErrProg)
		}
	}
	ask(whole(), 3, 0, api.ErrArg)
	ask(whole(), 1, 2, api.ErrArg)
	ask(whole(), 2, 1, api.ErrArg)
	ask(one(0, yield()), 0, 0, api.ErrProg)
	touch(t, whole(), 1, 1, nil, nil)
}

// 3.4: two answers share no memory, and none is the program's.
func TestTouchedMemory(t *testing.T) {
	p := whole()
	a, _ := prog.Reads(p, 0, 1)
	b, _ := prog.Reads(p, 0, 1)
	a[0] = 99
	_ = append(a[:1], 98)
	if !slices.Equal(b, []int{2, 3}) || !prog.Same(p, whole()) {
		t.Errorf("%v", b)
	}
}

// 3.4: of samples: registers that the function has, rising.
func TestTouchedOfSamples(t *testing.T) {
	for seed := range uint64(30) {
		p := sample.Prog(seed)
		for f, fn := range p.Funcs {
			for pc := range fn.Code {
				for _, ask := range []func(api.Prog, int, int) ([]int, api.Errno){prog.Reads, prog.Sets} {
					got, e := ask(p, f, pc)
					if e != api.OK {
						t.Fatalf("seed %d at {%d %d}: %v", seed, f, pc, e)
					}
					for i, r := range got {
						if r < 0 || r >= fn.Regs || i > 0 && r <= got[i-1] {
							t.Errorf("seed %d at {%d %d}: %v", seed, f, pc, got)
						}
					}
				}
			}
		}
	}
}
