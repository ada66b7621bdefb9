package asm_test

import (
	"math"
	"strings"
	"testing"

	"scarab/api"
	"scarab/asm"
	"scarab/prog"
	"scarab/sample"
)

// wholeText is the text of whole: each kind of line, and each operation that is none of numbers.
const wholeText = `scarab
var -9223372036854775808
atomic 7
var 0
atomic -1
mutex
mutex
mutex
chan 0
chan 4
chan 2
func 0 8
choose _
onrecv c0 _ @3
onsend c1 r7 @0
choose @5
onrecv c2 r0 @27
const r7 9223372036854775807
const r0 -1
move r1 r2
jump @4
if r3 @0
assert r4 -5
load r5 v0
store v2 r6
bump _ v1 r7
bump r0 v3 r1
cas r0 v1 r2 r3
await v3 r4
lock l0
unlock l1
try r5 l2
send c0 r1
recv _ c1 _
recv r1 c1 r2
close c2
select s0
select s1
spawn _ f1 r0
spawn r3 f2 r6
spawn r3 f2 r0
join r7
yield
note r6 -7
end
func 0 0
yield
jump @0
func 2 3
end
`

// whole is the program of wholeText.
func whole() api.Prog {
	return api.Prog{
		Vars:  []api.Var{{Init: math.MinInt64}, {Atomic: true, Init: 7}, {}, {Atomic: true, Init: -1}},
		Locks: 3,
		Chans: []int{0, 4, 2},
		Funcs: []api.Func{{Regs: 8, Selects: []api.Select{
			{Cases: []api.Case{{Chan: 0, Reg: -1, To: 3}, {Send: true, Chan: 1, Reg: 7, To: 0}}, Else: -1},
			{Cases: []api.Case{{Chan: 2, Reg: 0, To: 27}}, Else: 5},
		}, Code: []api.Instr{
			{Op: api.OpConst, A: 7, N: math.MaxInt64}, {Op: api.OpConst, A: 0, N: -1}, {Op: api.OpMove, A: 1, B: 2},
			{Op: api.OpJump, A: 4}, {Op: api.OpIf, A: 3, B: 0}, {Op: api.OpAssert, A: 4, N: -5},
			{Op: api.OpLoad, A: 5, B: 0}, {Op: api.OpStore, A: 2, B: 6}, {Op: api.OpBump, A: -1, B: 1, C: 7},
			{Op: api.OpBump, A: 0, B: 3, C: 1}, {Op: api.OpCas, A: 0, B: 1, C: 2, N: 3}, {Op: api.OpAwait, A: 3, B: 4},
			{Op: api.OpLock, A: 0}, {Op: api.OpUnlock, A: 1}, {Op: api.OpTry, A: 5, B: 2},
			{Op: api.OpSend, A: 0, B: 1}, {Op: api.OpRecv, A: -1, B: 1, C: -1}, {Op: api.OpRecv, A: 1, B: 1, C: 2},
			{Op: api.OpClose, A: 2}, {Op: api.OpSelect, A: 0}, {Op: api.OpSelect, A: 1},
			{Op: api.OpSpawn, A: -1, B: 1, C: 0}, {Op: api.OpSpawn, A: 3, B: 2, C: 6}, {Op: api.OpSpawn, A: 3, B: 2, C: 0},
			{Op: api.OpJoin, A: 7}, {Op: api.OpYield}, {Op: api.OpNote, A: 6, N: -7}, {Op: api.OpEnd},
		}}, {Code: []api.Instr{{Op: api.OpYield}, {Op: api.OpJump, A: 0}}},
			{Params: 2, Regs: 3, Code: []api.Instr{{Op: api.OpEnd}}}},
	}
}

// greatest has of everything as much as it may have, in long words.
func greatest() api.Prog {
	p := api.Prog{Locks: api.MaxLocks, Funcs: make([]api.Func, api.MaxFuncs)}
	for range api.MaxVars {
		p.Vars = append(p.Vars, api.Var{Atomic: true, Init: math.MinInt64})
	}
	for range api.MaxChans {
		p.Chans = append(p.Chans, api.MaxCap)
	}
	for f := range p.Funcs {
		fn := api.Func{Regs: api.MaxRegs}
		for range api.MaxSelects {
			s := api.Select{Else: api.MaxCode - 1}
			for range api.MaxCases {
				s.Cases = append(s.Cases, api.Case{Chan: 3, Reg: 7, To: api.MaxCode - 1})
			}
			fn.Selects = append(fn.Selects, s)
		}
		for range api.MaxCode - 1 {
			fn.Code = append(fn.Code, api.Instr{Op: api.OpAssert, A: api.MaxRegs - 1, N: math.MinInt64})
		}
		fn.Code = append(fn.Code, api.Instr{Op: api.OpEnd})
		p.Funcs[f] = fn
	}
	return p
}

// programs are those that most tests go through.
func programs() []api.Prog {
	out := []api.Prog{whole(), greatest(), {Funcs: []api.Func{{Code: []api.Instr{{Op: api.OpEnd}}}}}}
	for seed := range uint64(60) {
		out = append(out, sample.Prog(seed))
	}
	return out
}

// printed is a right program's text.
func printed(t *testing.T, p api.Prog) string {
	t.Helper()
	s, e := asm.Print(p)
	if e != api.OK {
		t.Fatalf("Print: %v", e)
	}
	return s
}

// parsed asks that a text is a program's.
func parsed(t *testing.T, s string, want api.Prog) {
	t.Helper()
	p, e, at := asm.Parse(s)
	if e != api.OK || at != 0 {
		t.Errorf("Parse(%q): %v in %d", s, e, at)
	} else if !prog.Same(p, want) {
		t.Errorf("Parse(%q): %v, not %v", s, p, want)
	}
}

// refused asks what Parse says of a text that is no program's.
func refused(t *testing.T, s string, want api.Errno, line int) {
	t.Helper()
	p, e, at := asm.Parse(s)
	if e != want || at != line || !prog.Same(p, api.Prog{}) {
		t.Errorf("Parse(%q): %v in %d, not %v in %d", s, e, at, want, line)
	}
}

// with is lines of which one is another one, as a text.
func with(lines []string, n int, line string) string {
	out := append([]string{}, lines...)
	out[n] = line
	return strings.Join(out, "\n")
}
