package flow_test

import (
	"slices"
	"testing"

	"scarab/api"
	"scarab/flow"
)

// gos are accesses to how many goroutines there are, and to each from one on.
func gos(from int, write bool) []api.Access {
	out := []api.Access{{Kind: api.ObGos, Write: write}}
	for k := from; k < api.MaxGos; k++ {
		out = append(out, api.Access{Kind: api.ObGo, Num: k, Write: write})
	}
	return out
}

// 6.3: the chapter's second example.
func TestMayExample(t *testing.T) {
	all := append([]api.Access{{Kind: 1, Num: 1}, {Kind: 2, Num: 0, Write: true}}, gos(1, true)...)
	for pc, want := range [][]api.Access{all, all[1:], nil} {
		if l, e := flow.May(spawner(), 0, pc); e != api.OK || !slices.Equal(l, want) {
			t.Errorf("May from %d: %v, %v", pc, l, e)
		}
	}
	if l, e := flow.Touches(spawner(), 0, 0); e != api.OK || !slices.Equal(l, all[:1]) {
		t.Errorf("Touches: %v, %v", l, e)
	}
}

// 6.3: what each instruction may touch.
func TestTouches(t *testing.T) {
	write := func(kind, num int) []api.Access { return []api.Access{{Kind: kind, Num: num, Write: true}} }
	for pc, want := range [][]api.Access{
		{{Kind: api.ObVar, Num: 1}}, write(api.ObVar, 1), write(api.ObVar, 2),
		write(api.ObVar, 3), {{Kind: api.ObVar, Num: 4}}, write(api.ObLock, 1),
		write(api.ObLock, 2), write(api.ObLock, 3), write(api.ObChan, 1),
		write(api.ObChan, 2), write(api.ObChan, 3), append(write(api.ObChan, 1), write(api.ObChan, 3)...),
		write(api.ObChan, 2), write(api.ObChan, 0), gos(1, true),
		gos(0, false), nil, write(api.ObNotes, 0), nil,
		nil, nil, nil,
	} {
		if l, e := flow.Touches(every(), 0, pc); e != api.OK || !slices.Equal(l, want) {
			t.Errorf("Touches at %d: %v, %v, not %v", pc, l, e, want)
		}
	}
	for _, p := range programs() {
		eachPlace(p, func(f, pc int) {
			if l, e := flow.Touches(p, f, pc); e != api.OK || local(p, f, pc) && len(l) > 0 || !slices.Equal(l, merged(l)) {
				t.Errorf("Touches {%d %d}: %v, %v", f, pc, l, e)
			}
		})
	}
}

// may is what may be touched from a place on, by the chapter's words.
func may(t *testing.T, p api.Prog, f, pc int) []api.Access {
	type start struct{ f, pc int }
	from := []start{{f, pc}}
	var all []api.Access
	for i := 0; i < len(from); i++ {
		reach, _ := flow.Reach(p, from[i].f, from[i].pc)
		for _, x := range reach {
			l, _ := flow.Touches(p, from[i].f, x)
			all = append(all, l...)
			in := p.Funcs[from[i].f].Code[x]
			if s := (start{in.B, 0}); in.Op == api.OpSpawn && !slices.Contains(from, s) {
				from = append(from, s)
			}
		}
	}
	return merged(all)
}

// 6.3: what may be touched from a place on, in goroutines that are spawned from there on too.
func TestMay(t *testing.T) {
	for _, p := range programs() {
		eachPlace(p, func(f, pc int) {
			want := may(t, p, f, pc)
			if l, e := flow.May(p, f, pc); e != api.OK || !slices.Equal(l, want) {
				t.Errorf("May {%d %d}: %v, %v, not %v", f, pc, l, e, want)
			}
		})
	}
}

// 6.3: goroutines that spawn others, of functions that stand ahead; one that spawns itself.
func TestMayChain(t *testing.T) {
	const end, spawn, store, note = 4, 2, 3, 1
	vars := func(least, most int) []api.Access {
		var out []api.Access
		for v := least; v <= most; v++ {
			out = append(out, api.Access{Kind: api.ObVar, Num: v, Write: true})
		}
		return out
	}
	for _, c := range []struct {
		f, pc int
		want  []api.Access
	}{
		{0, end, nil},
		{0, store, vars(0, 0)},
		{0, spawn, append(vars(0, 6), gos(1, true)...)},
		{3, 0, append(vars(0, 6), gos(1, true)...)}, // round by main to the last one but one
		{7, 0, append(vars(7, 7), gos(1, true)...)},
		{7, note, append(append(vars(7, 7), gos(1, true)...), api.Access{Kind: api.ObNotes, Write: true})},
	} {
		if l, e := flow.May(chain(), c.f, c.pc); e != api.OK || !slices.Equal(l, c.want) {
			t.Errorf("May {%d %d}: %v, %v", c.f, c.pc, l, e)
		}
	}
}

// 6.3: an object that is read and written is written, whichever comes first; a function's own beginning counts, where
// it is spawned from further on.
func TestMayBoth(t *testing.T) {
	load, store := api.Instr{Op: api.OpLoad}, api.Instr{Op: api.OpStore}
	self, end := api.Instr{Op: api.OpSpawn, A: -1}, api.Instr{Op: api.OpEnd}
	for _, code := range [][]api.Instr{{load, store, end}, {store, load, end}} {
		p := one(1, code...)
		p.Vars = make([]api.Var, 1)
		if l, e := flow.May(p, 0, 0); e != api.OK || !slices.Equal(l, []api.Access{{Kind: api.ObVar, Write: true}}) {
			t.Errorf("both: %v, %v", l, e)
		}
	}
	p := one(1, load, self, end)
	p.Vars = make([]api.Var, 1)
	want := append([]api.Access{{Kind: api.ObVar}}, gos(1, true)...)
	if l, e := flow.May(p, 0, 1); e != api.OK || !slices.Equal(l, want) {
		t.Errorf("itself: %v, %v", l, e)
	}
	joins := one(1, self, api.Instr{Op: api.OpJoin}, end)
	want = append([]api.Access{{Kind: api.ObGos, Write: true}, {Kind: api.ObGo}}, gos(1, true)[1:]...)
	if l, e := flow.May(joins, 0, 0); e != api.OK || !slices.Equal(l, want) {
		t.Errorf("spawn and join: %v, %v", l, e)
	}
}

// steps are all that a step at an instruction can touch when it is taken, but for the goroutine itself: a spawn makes
// one goroutine, whose number is how many there were; a join waits for one.
func steps(fn api.Func, in api.Instr) [][]api.Access {
	one := func(kind, num int, write bool) [][]api.Access {
		return [][]api.Access{{{Kind: kind, Num: num, Write: write}}}
	}
	var out [][]api.Access
	switch in.Op {
	case api.OpLoad:
		return one(api.ObVar, in.B, false)
	case api.OpAwait:
		return one(api.ObVar, in.A, false)
	case api.OpStore:
		return one(api.ObVar, in.A, true)
	case api.OpBump, api.OpCas:
		return one(api.ObVar, in.B, true)
	case api.OpLock, api.OpUnlock:
		return one(api.ObLock, in.A, true)
	case api.OpTry:
		return one(api.ObLock, in.B, true)
	case api.OpSend, api.OpClose:
		return one(api.ObChan, in.A, true)
	case api.OpRecv:
		return one(api.ObChan, in.B, true)
	case api.OpNote:
		return one(api.ObNotes, 0, true)
	case api.OpSelect:
		for _, c := range fn.Selects[in.A].Cases {
			out = append(out, one(api.ObChan, c.Chan, true)...)
		}
	case api.OpSpawn:
		for count := 1; count < api.MaxGos; count++ {
			out = append(out, []api.Access{{Kind: api.ObGos, Write: true}, {Kind: api.ObGo, Num: count, Write: true}})
		}
	case api.OpJoin:
		for k := range api.MaxGos {
			out = append(out, []api.Access{{Kind: api.ObGos}, {Kind: api.ObGo, Num: k}})
		}
	}
	return out
}

// 6.6: May of a place holds May of each place that may be come to from it, its own Touches, and what steps from there
// on touch.
func TestMayHolds(t *testing.T) {
	for _, p := range programs()[:30] {
		eachPlace(p, func(f, pc int) {
			all, _ := flow.May(p, f, pc)
			own, _ := flow.Touches(p, f, pc)
			if !holds(all, own) {
				t.Fatalf("{%d %d}: %v has not %v", f, pc, all, own)
			}
			reach, _ := flow.Reach(p, f, pc)
			for _, x := range reach {
				later, _ := flow.May(p, f, x)
				if !holds(all, later) {
					t.Fatalf("{%d %d}: %v has not %v of %d", f, pc, all, later, x)
				}
				for _, touched := range steps(p.Funcs[f], p.Funcs[f].Code[x]) {
					if !holds(all, touched) {
						t.Fatalf("{%d %d}: %v has not %v of a step at %d", f, pc, all, touched, x)
					}
				}
			}
		})
	}
}
