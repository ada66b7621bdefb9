package sample

import (
	"testing"

	"scarab/api"
	"scarab/prog"
)

// Samples are right, hang on their seed alone, and have every operation among them.
func TestProg(t *testing.T) {
	seen := map[api.Op]int{}
	for seed := range uint64(200) {
		p := Prog(seed)
		if e, at := prog.Check(p); e != api.OK {
			t.Fatalf("seed %d: %v at %v", seed, e, at)
		}
		if !prog.Same(p, Prog(seed)) {
			t.Errorf("seed %d is not told the same twice", seed)
		}
		for _, fn := range p.Funcs {
			for _, in := range fn.Code {
				seen[in.Op]++
			}
		}
	}
	for op := range api.OpTaken {
		if prog.Form(op) != "" && seen[op] == 0 {
			t.Errorf("no sample has the operation %d", op)
		}
	}
}
