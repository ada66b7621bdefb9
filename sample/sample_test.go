package sample

import (
	"slices"
	"testing"

	"scarab/api"
	"scarab/prog"
)

// Samples are right, hang on their seed alone, and have every operation among them.
func TestProg(t *testing.T) {
	seen := map[api.Op]int{}
	for seed := range uint64(200) {
		p := Prog(seed)
		if e, at := prog.Check(p); e != api.OK {
			t.Fatalf("seed %d: %v at %v", seed, e, at)
		}
		if !prog.Same(p, Prog(seed)) {
			t.Errorf("seed %d is not told the same twice", seed)
		}
		for _, fn := range p.Funcs {
			for _, in := range fn.Code {
				seen[in.Op]++
			}
		}
	}
	for op := range api.OpTaken {
		if prog.Form(op) != "" && seen[op] == 0 {
			t.Errorf("no sample has the operation %d", op)
		}
	}
}

// Small samples are right, hang on their seed alone, and have every visible operation among them.
func TestSmall(t *testing.T) {
	seen := map[api.Op]int{}
	for seed := range uint64(200) {
		p := Small(seed)
		if e, at := prog.Check(p); e != api.OK {
			t.Fatalf("seed %d: %v at %v", seed, e, at)
		}
		if !prog.Same(p, Small(seed)) {
			t.Errorf("seed %d is not told the same twice", seed)
		}
		for _, fn := range p.Funcs {
			for _, in := range fn.Code {
				seen[in.Op]++
			}
		}
	}
	for op := range api.OpTaken {
		if prog.Visible(op) && seen[op] == 0 {
			t.Errorf("no small sample has the operation %d", op)
		}
	}
}

// Racy samples are right, hang on their seed alone, and have plain and atomic variables, loads, stores and locks among
// them.
func TestRacy(t *testing.T) {
	seen := map[api.Op]int{}
	vars := map[bool]int{}
	for seed := range uint64(200) {
		p := Racy(seed)
		if e, at := prog.Check(p); e != api.OK {
			t.Fatalf("seed %d: %v at %v", seed, e, at)
		}
		if !prog.Same(p, Racy(seed)) {
			t.Errorf("seed %d is not told the same twice", seed)
		}
		for _, x := range p.Vars {
			vars[x.Atomic]++
		}
		for _, fn := range p.Funcs {
			for _, in := range fn.Code {
				seen[in.Op]++
			}
		}
	}
	if vars[true] == 0 || vars[false] == 0 {
		t.Errorf("variables: %v", vars)
	}
	for _, op := range []api.Op{api.OpLoad, api.OpStore, api.OpLock, api.OpUnlock, api.OpTry, api.OpSend, api.OpRecv, api.OpSpawn} {
		if seen[op] == 0 {
			t.Errorf("no racy sample has the operation %d", op)
		}
	}
}

// States hang on their program and seed alone; goroutines are in them as they may be, and offers too. (That they are
// states of their programs, the tests of package state ask.)
func TestState(t *testing.T) {
	var status [api.GoSpun + 1]int
	var offers [api.OfferLost + 1]int
	for seed := range uint64(2000) {
		p := Small(seed)
		s := State(p, seed)
		if s != State(p, seed) {
			t.Errorf("seed %d is not told the same twice", seed)
		}
		for _, it := range s.Gos {
			status[it.Status]++
		}
		for n := range p.Chans {
			offers[s.Chans[n].Offer]++
		}
	}
	for k, n := range status {
		if n == 0 {
			t.Errorf("no goroutine has the status %d", k)
		}
	}
	for k, n := range offers {
		if n == 0 {
			t.Errorf("no channel has the offer %d", k)
		}
	}
}

// Choices and traces hang on what is asked for alone, and have as many members; among the events there are such of
// every goroutine, with objects of every kind. (That they are traces, the tests of package depend ask.)
func TestTrace(t *testing.T) {
	var gos [api.MaxGos]int
	var kinds [api.ObNotes + 1][2]int
	for seed := range uint64(300) {
		n := int(seed % 40)
		if l := Choices(seed, n); len(l) != n || !slices.Equal(l, Choices(seed, n)) {
			t.Errorf("seed %d: choices %v", seed, l)
		}
		l := Trace(seed, n)
		if len(l) != n || !slices.Equal(l, Trace(seed, n)) {
			t.Errorf("seed %d: events %v", seed, l)
		}
		for _, x := range l {
			gos[x.Go]++
			for _, a := range x.Touch[:x.Touches] {
				if a.Write {
					kinds[a.Kind][1]++
				} else {
					kinds[a.Kind][0]++
				}
			}
		}
	}
	for g, n := range gos {
		if n == 0 {
			t.Errorf("no event is of the goroutine %d", g)
		}
	}
	for k, n := range kinds[1:] {
		if n[0] == 0 || n[1] == 0 {
			t.Errorf("of the kind %d %d are read, %d written", k+1, n[0], n[1])
		}
	}
}
