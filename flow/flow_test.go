package flow_test

import (
	"slices"
	"testing"

	"scarab/api"
	"scarab/flow"
	"scarab/prog"
	"scarab/word"
)

// places asks for a list of places.
func places(t *testing.T, what string, got []int, e api.Errno, want ...int) {
	t.Helper()
	if e != api.OK || !slices.Equal(got, want) {
		t.Errorf("%s: %v, %v, not %v", what, got, e, want)
	}
}

// 6.1, 6.4: the chapter's first example.
func TestExample(t *testing.T) {
	p := counter()
	l, e := flow.Next(p, 0, 1)
	places(t, "Next at 1", l, e, 2, 3)
	l, e = flow.Next(p, 0, 2)
	places(t, "Next at the end", l, e)
	l, e = flow.Reach(p, 0, 2)
	places(t, "Reach from 2", l, e, 2)
	l, e = flow.Reach(p, 0, 4)
	places(t, "Reach from 4", l, e, 1, 2, 3, 4)
	l, e = flow.Spins(p, 0)
	places(t, "Spins", l, e, 1, 3, 4)
	l, e = flow.Heads(p, 0)
	places(t, "Heads", l, e, 0, 1, 2, 3)
	for pc, want := range []int{-1, -1, 1, -1, -1} {
		if n, e := flow.Longest(p, 0, pc); n != want || e != api.OK {
			t.Errorf("Longest from %d: %d, %v", pc, n, e)
		}
	}
}

// 6.1: what may come behind, each once, of each kind of instruction.
func TestNext(t *testing.T) {
	for pc := range every().Funcs[0].Code {
		want := []int{pc + 1}
		switch pc {
		case 11:
			want = []int{3, 20} // a select that waits, with two cases that go on at one place
		case 12:
			want = []int{2, 7}
		case 13:
			want = []int{7} // a case and the else go on at one place
		case 19:
			want = []int{20} // an if to the next place
		case 21:
			want = []int{21}
		}
		l, e := flow.Next(every(), 0, pc)
		places(t, "Next", l, e, want...)
	}
	p := one(1, api.Instr{Op: api.OpIf, B: 1}, api.Instr{Op: api.OpIf, B: 0}, api.Instr{Op: api.OpEnd})
	l, e := flow.Next(p, 0, 1)
	places(t, "Next of an if back", l, e, 0, 2)
	for _, p := range programs() {
		eachPlace(p, func(f, pc int) {
			var want []int
			fn, in := p.Funcs[f], p.Funcs[f].Code[pc]
			if in.Op == api.OpSelect {
				for _, c := range fn.Selects[in.A].Cases {
					want = append(want, c.To)
				}
				want = append(want, fn.Selects[in.A].Else)
			}
			if in.Op == api.OpJump {
				want = append(want, in.A)
			}
			if in.Op == api.OpIf {
				want = append(want, in.B)
			}
			if in.Op != api.OpJump && in.Op != api.OpEnd && in.Op != api.OpSelect {
				want = append(want, pc+1)
			}
			slices.Sort(want)
			want = slices.DeleteFunc(slices.Compact(want), func(x int) bool { return x == -1 })
			l, e := flow.Next(p, f, pc)
			places(t, "Next", l, e, want...)
		})
	}
}

// 6.1: what may be come to: the place itself, and what may come behind one that may.
func TestReach(t *testing.T) {
	for _, p := range programs() {
		eachPlace(p, func(f, pc int) {
			want := walk(t, p, f, []int{pc}, func(int) bool { return true })
			slices.Sort(want)
			l, e := flow.Reach(p, f, pc)
			places(t, "Reach", l, e, want...)
		})
	}
	l, e := flow.Reach(backward(), 0, api.MaxCode-1)
	if e != api.OK || len(l) != api.MaxCode {
		t.Errorf("all places, the last one first: %v, %v", l, e)
	}
}

// 6.1: rings, of local instructions alone.
func TestSpins(t *testing.T) {
	self := api.Instr{Op: api.OpJump}
	yield, end := api.Instr{Op: api.OpYield}, api.Instr{Op: api.OpEnd}
	l, e := flow.Spins(one(0, self), 0)
	places(t, "a jump to itself", l, e, 0)
	l, e = flow.Spins(one(0, yield, self), 0)
	places(t, "a ring with a yield", l, e)
	l, e = flow.Spins(one(0, api.Instr{Op: api.OpJump, A: 1}, api.Instr{Op: api.OpJump, A: 1}), 0)
	places(t, "ahead of a ring", l, e, 1)
	l, e = flow.Spins(one(1, api.Instr{Op: api.OpIf}, end), 0)
	places(t, "behind a ring", l, e, 0)
	l, e = flow.Spins(one(1, api.Instr{Op: api.OpIf, B: 2}, self, yield, self), 0)
	places(t, "two rings, one with a yield", l, e, 0, 1)
	l, e = flow.Spins(every(), 0)
	places(t, "every", l, e, 21)
	two := one(0, end)
	two.Funcs = append(two.Funcs, api.Func{Code: []api.Instr{self}})
	l, e = flow.Spins(two, 0)
	places(t, "of the first function", l, e)
	l, e = flow.Spins(two, 1)
	places(t, "of the second function", l, e, 0)
	found := 0
	for _, p := range append(programs(), short()...) {
		for f, fn := range p.Funcs {
			var want []int
			for pc := range fn.Code {
				if local(p, f, pc) && slices.Contains(walk(t, p, f, next(t, p, f, pc), func(x int) bool { return local(p, f, x) }), pc) {
					want = append(want, pc)
				}
			}
			found += len(want)
			l, e := flow.Spins(p, f)
			places(t, "Spins", l, e, want...)
		}
	}
	if found < 100 {
		t.Errorf("only %d places spin", found)
	}
}

// longest is Longest by going all local ways from a place, of which ahead were gone through.
func longest(t *testing.T, p api.Prog, f, pc int, ahead []int, known map[int]int) int {
	if !local(p, f, pc) {
		return 0
	}
	if slices.Contains(ahead, pc) {
		return -1
	}
	if n, ok := known[pc]; ok {
		return n
	}
	out := 1
	for _, x := range next(t, p, f, pc) {
		n := longest(t, p, f, x, append(slices.Clone(ahead), pc), known)
		if n == -1 {
			out = -1
			break
		}
		out = max(out, 1+n)
	}
	known[pc] = out
	return out
}

// 6.1: how long local ways are.
func TestLongest(t *testing.T) {
	mov, end := api.Instr{Op: api.OpMove}, api.Instr{Op: api.OpEnd}
	yield, self := api.Instr{Op: api.OpYield}, api.Instr{Op: api.OpJump}
	for i, c := range []struct {
		p    api.Prog
		pc   int
		want int
	}{
		{one(0, end), 0, 1},
		{one(0, yield, end), 0, 0},
		{one(0, yield, end), 1, 1},
		{one(1, mov, mov, yield, mov, end), 0, 2}, // the visible one is not counted, nor what is behind it
		{one(1, mov, mov, yield, mov, end), 1, 1},
		{one(1, mov, mov, end), 0, 3},
		{one(0, self), 0, -1},
		{one(0, yield, self), 1, 1},                            // a ring with a visible instruction has an end
		{one(1, yield, api.Instr{Op: api.OpJump, A: 1}), 0, 0}, // from a visible place no local way goes
		{one(1, api.Instr{Op: api.OpIf, B: 3}, mov, yield, self), 0, -1},
		{one(1, api.Instr{Op: api.OpIf, B: 3}, mov, yield, end), 0, 2},
		{one(1, api.Instr{Op: api.OpIf, B: 2}, mov, mov, mov, end), 0, 5},
		{one(1, api.Instr{Op: api.OpIf, B: 2}, yield, mov, mov, end), 0, 4},
		{backward(), api.MaxCode - 1, api.MaxCode},
		{backward(), 0, 1},
	} {
		if n, e := flow.Longest(c.p, 0, c.pc); n != c.want || e != api.OK {
			t.Errorf("%d: %d, %v, not %d", i, n, e, c.want)
		}
	}
	long := 0
	for _, p := range append(programs(), short()...) {
		eachPlace(p, func(f, pc int) {
			want := longest(t, p, f, pc, nil, map[int]int{})
			if n, e := flow.Longest(p, f, pc); n != want || e != api.OK {
				t.Errorf("Longest {%d %d}: %d, %v, not %d", f, pc, n, e, want)
			}
			long = max(long, want)
		})
	}
	if long < 20 {
		t.Errorf("the longest way has %d instructions", long)
	}
}

// 6.2: the functions that may be run, and the places that no run comes to.
func TestFuncs(t *testing.T) {
	l, e := flow.Funcs(spawner())
	places(t, "spawner", l, e, 0, 1)
	l, e = flow.Funcs(chain())
	places(t, "chain", l, e, 0, 1, 2, 3, 4, 5, 6)
	l, e = flow.Funcs(counter())
	places(t, "counter", l, e, 0)
	hidden := one(0, api.Instr{Op: api.OpEnd}, api.Instr{Op: api.OpSpawn, A: -1, B: 1}, api.Instr{Op: api.OpEnd})
	hidden.Funcs = append(hidden.Funcs, api.Func{Code: []api.Instr{{Op: api.OpEnd}}})
	l, e = flow.Funcs(hidden)
	places(t, "a spawn that is not come to", l, e, 0)
	for _, p := range programs() {
		want := []int{0}
		for i := 0; i < len(want); i++ {
			for _, pc := range walk(t, p, want[i], []int{0}, func(int) bool { return true }) {
				in := p.Funcs[want[i]].Code[pc]
				if in.Op == api.OpSpawn && !slices.Contains(want, in.B) {
					want = append(want, in.B)
				}
			}
		}
		slices.Sort(want)
		l, e := flow.Funcs(p)
		places(t, "Funcs", l, e, want...)
	}
}

// 6.2: places that no run comes to.
func TestIdle(t *testing.T) {
	idle := func(p api.Prog, want ...api.Spot) {
		t.Helper()
		if l, e := flow.Idle(p); e != api.OK || !slices.Equal(l, want) {
			t.Errorf("Idle: %v, %v, not %v", l, e, want)
		}
	}
	idle(counter())
	idle(spawner())
	var want []api.Spot
	for f := range api.MaxFuncs - 1 {
		want = append(want, api.Spot{Func: f, PC: 1})
	}
	for pc := range 5 {
		want = append(want, api.Spot{Func: api.MaxFuncs - 1, PC: pc})
	}
	idle(chain(), want...)
	for _, p := range programs() {
		var want []api.Spot
		run, _ := flow.Funcs(p)
		eachPlace(p, func(f, pc int) {
			reach, _ := flow.Reach(p, f, 0)
			if !slices.Contains(run, f) || !slices.Contains(reach, pc) {
				want = append(want, api.Spot{Func: f, PC: pc})
			}
		})
		idle(p, want...)
	}
}

// 6.4: the places at which a stretch begins.
func TestHeads(t *testing.T) {
	l, e := flow.Heads(every(), 0)
	places(t, "every", l, e, 0, 2, 3, 7, 12, 13, 14, 20, 21)
	l, e = flow.Heads(one(0, api.Instr{Op: api.OpEnd}), 0)
	places(t, "end", l, e, 0)
	l, e = flow.Heads(one(0, api.Instr{Op: api.OpYield}, api.Instr{Op: api.OpEnd}, api.Instr{Op: api.OpYield}, api.Instr{Op: api.OpJump, A: 3}), 0)
	places(t, "behind an end", l, e, 0, 2, 3)
	for _, p := range programs() {
		for f, fn := range p.Funcs {
			want := []int{0}
			for pc, in := range fn.Code {
				if in.Op == api.OpJump || in.Op == api.OpIf || in.Op == api.OpSelect || in.Op == api.OpEnd {
					want = append(want, next(t, p, f, pc)...)
					want = append(want, pc+1)
				}
			}
			slices.Sort(want)
			want = slices.Compact(want)
			want = slices.DeleteFunc(want, func(x int) bool { return x == len(fn.Code) })
			l, e := flow.Heads(p, f)
			places(t, "Heads", l, e, want...)
		}
	}
}

// 6.5: what may be come to from a place holds what may be come to from each of its own.
func TestReachHolds(t *testing.T) {
	for _, p := range programs() {
		eachPlace(p, func(f, pc int) {
			all, _ := flow.Reach(p, f, pc)
			for _, x := range all {
				some, _ := flow.Reach(p, f, x)
				for _, y := range some {
					if !slices.Contains(all, y) {
						t.Fatalf("{%d %d}: %d is come to from %d alone", f, pc, y, x)
					}
				}
			}
		})
	}
}

// runs tells whether a goroutine at a place comes to a visible instruction, an end or a failure with some fuel.
func runs(fn api.Func, pc, fuel int, regs [api.MaxRegs]int64) bool {
	for ; prog.Local(fn.Code[pc].Op); fuel-- {
		if fuel == 0 {
			return false
		}
		in := fn.Code[pc]
		pc++
		switch in.Op {
		case api.OpConst:
			regs[in.A] = in.N
		case api.OpMove:
			regs[in.A] = regs[in.B]
		case api.OpJump:
			pc = in.A
		case api.OpIf:
			if regs[in.A] != 0 {
				pc = in.B
			}
		case api.OpAssert:
			if regs[in.A] == 0 {
				return true
			}
		case api.OpEnd:
			return true
		default:
			x, e := word.Apply(in.Op, regs[in.B], regs[in.C])
			if e != api.OK {
				return true
			}
			regs[in.A] = x
		}
	}
	return true
}

// 6.5: with a fuel from Longest on nothing spins.
func TestLongestIsEnough(t *testing.T) {
	tried := 0
	for _, p := range append(programs(), short()...) {
		eachPlace(p, func(f, pc int) {
			n, _ := flow.Longest(p, f, pc)
			if n == -1 {
				return
			}
			for _, x := range []int64{0, 1, -1, 7} {
				tried++
				regs := [api.MaxRegs]int64{x, 1, -x, 0, x, 3}
				if !runs(p.Funcs[f], pc, n, regs) || !runs(p.Funcs[f], pc, n+1, regs) {
					t.Errorf("{%d %d}: a fuel of %d is not enough", f, pc, n)
				}
			}
		})
	}
	if tried < 1000 {
		t.Errorf("only %d were tried", tried)
	}
}
