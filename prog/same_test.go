package prog_test

import (
	"reflect"
	"slices"
	"testing"

	"scarab/api"
	"scarab/prog"
	"scarab/sample"
)

// wrongs are programs that are not right, and have lists of all lengths.
func wrongs() []api.Prog {
	return []api.Prog{
		{},
		{Vars: make([]api.Var, 20), Locks: -3, Chans: []int{9, -9, 9}},
		{Funcs: []api.Func{{}, {Params: -1, Regs: 99, Selects: []api.Select{{}, {Else: -7, Cases: make([]api.Case, 9)}}}}},
		{Funcs: make([]api.Func, 30)},
		one(-1, api.Instr{Op: -1, A: -1, B: -1, C: -1, N: -1}),
	}
}

// all are programs, right and wrong.
func all() []api.Prog {
	out := append(wrongs(), whole(), one(0, end()))
	for seed := range uint64(10) {
		out = append(out, sample.Prog(seed))
	}
	return out
}

// 3.3, 3.6: Same is an equality: each program is the same as itself and its copy, and as no other one.
func TestSame(t *testing.T) {
	for i, a := range all() {
		for j, b := range all() {
			if got := prog.Same(a, b); got != (i == j) {
				t.Errorf("%d and %d: %v", i, j, got)
			}
			if got := prog.Same(a, prog.Copy(b)); got != (i == j) {
				t.Errorf("%d and a copy of %d: %v", i, j, got)
			}
		}
	}
}

// 3.3: a program of which any field, or any list's length, is another one is not the same.
func TestSameFields(t *testing.T) {
	for i, p := range append(wrongs(), whole()) {
		q := prog.Copy(p)
		leaves(reflect.ValueOf(&q).Elem(), "", func(name string, v reflect.Value) {
			back := change(v)
			if prog.Same(p, q) || prog.Same(q, p) {
				t.Errorf("%d: another %s is the same", i, name)
			}
			back()
			if !prog.Same(p, q) || !prog.Same(q, p) {
				t.Errorf("%d: %s as it was is not the same", i, name)
			}
		})
	}
}

// 3.3: nil and empty lists are the same.
func TestSameEmpty(t *testing.T) {
	for _, c := range []struct{ a, b api.Prog }{
		{api.Prog{}, api.Prog{Vars: []api.Var{}, Chans: []int{}, Funcs: []api.Func{}}},
		{api.Prog{Funcs: []api.Func{{}}}, api.Prog{Funcs: []api.Func{{Code: []api.Instr{}, Selects: []api.Select{}}}}},
		{api.Prog{Funcs: []api.Func{{Selects: []api.Select{{}}}}}, api.Prog{Funcs: []api.Func{{Selects: []api.Select{{Cases: []api.Case{}}}}}}},
	} {
		for _, q := range []api.Prog{c.b, prog.Copy(c.a), prog.Copy(c.b)} {
			if !prog.Same(c.a, q) || !prog.Same(q, c.a) {
				t.Errorf("%#v and %#v", c.a, q)
			}
		}
	}
}

// 3.3: a copy has all that the program has.
func TestCopy(t *testing.T) {
	if got := prog.Copy(whole()); !reflect.DeepEqual(got, whole()) {
		t.Errorf("%v", got)
	}
}

// 3.6: what is done to a program is not done to its copy, and the other way round.
func TestCopyStays(t *testing.T) {
	p := whole()
	for _, turned := range []bool{false, true} {
		kept, spoiled := p, prog.Copy(p)
		if turned {
			kept, spoiled = spoiled, kept
		}
		leaves(reflect.ValueOf(&spoiled).Elem(), "", func(name string, v reflect.Value) {
			if v.Kind() != reflect.Slice {
				change(v)
			}
		})
		if !prog.Same(kept, whole()) {
			t.Errorf("turned %v: what is kept is spoiled", turned)
		}
	}
}

// 3.6: a copy takes no room that is the program's, even where nothing stands yet.
func TestCopySpareRoom(t *testing.T) {
	p := whole()
	p.Vars = slices.Grow(p.Vars, 10)
	p.Chans = slices.Grow(p.Chans, 10)[:0]
	p.Funcs = slices.Grow(p.Funcs, 10)
	p.Funcs[0].Code = slices.Grow(p.Funcs[0].Code, 10)
	q := prog.Copy(p)
	spare := append(p.Vars, api.Var{Init: 1})
	rooms := append(p.Chans, 1)
	code := append(p.Funcs[0].Code, yield())
	_, _, _ = append(q.Vars, api.Var{Init: 2}), append(q.Chans, 2), append(q.Funcs[0].Code, end())
	if spare[3].Init != 1 || rooms[0] != 1 || code[last+1] != yield() {
		t.Error("a copy wrote into the program's spare room")
	}
}
