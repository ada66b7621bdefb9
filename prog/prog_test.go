package prog_test

import (
	"math"
	"testing"

	"scarab/api"
	"scarab/prog"
	"scarab/sample"
)

// 3.2: the forms, as the chapter's table has them.
func TestForm(t *testing.T) {
	want := map[api.Op]string{
		api.OpConst: "r--n", api.OpMove: "rr--", api.OpJump: "t---", api.OpIf: "rt--", api.OpAssert: "r--n", api.OpEnd: "----",
		api.OpLoad: "rv--", api.OpStore: "vr--", api.OpBump: "oar-", api.OpCas: "rarw", api.OpAwait: "ar--",
		api.OpLock: "l---", api.OpUnlock: "l---", api.OpTry: "rl--", api.OpSend: "cr--", api.OpRecv: "oco-",
		api.OpClose: "c---", api.OpSelect: "s---", api.OpSpawn: "ofp-", api.OpJoin: "r---", api.OpYield: "----", api.OpNote: "r--n",
	}
	for op := api.OpNeg; op <= api.OpU32; op++ {
		want[op] = "rr--"
	}
	for op := api.OpAdd; op <= api.OpHigh; op++ {
		want[op] = "rrr-"
	}
	check := func(op api.Op) {
		if got := prog.Form(op); got != want[op] {
			t.Errorf("Form(%d): %q, not %q", op, got, want[op])
		}
		local := want[op] != "" && op <= api.OpEnd
		visible := want[op] != "" && op >= api.OpLoad
		if prog.Local(op) != local || prog.Visible(op) != visible {
			t.Errorf("%d: Local %v, Visible %v", op, prog.Local(op), prog.Visible(op))
		}
	}
	for op := api.Op(-300); op < 300; op++ {
		check(op)
	}
	for _, op := range []api.Op{math.MinInt, math.MinInt + 45, math.MaxInt, 1<<32 + 45, 256 + 45} {
		check(op)
	}
}

// 3.5: how many there are, and how many are visible.
func TestCount(t *testing.T) {
	for i, c := range []struct {
		p            api.Prog
		all, visible int
		want         api.Errno
	}{
		{one(0, end()), 1, 0, api.OK},
		{one(0, yield(), yield(), end()), 3, 2, api.OK},
		{whole(), 27, 17, api.OK},
		{api.Prog{}, 0, 0, api.ErrProg},
		{one(0, yield()), 0, 0, api.ErrProg},
	} {
		if all, visible, e := prog.Count(c.p); all != c.all || visible != c.visible || e != c.want {
			t.Errorf("case %d: %d, %d, %v", i, all, visible, e)
		}
	}
}

// 3.5: each instruction of a right program is one of both kinds.
func TestCountOfSamples(t *testing.T) {
	for seed := range uint64(50) {
		p := sample.Prog(seed)
		all, visible, local := 0, 0, 0
		for _, fn := range p.Funcs {
			for _, in := range fn.Code {
				all++
				if in.Op >= 50 {
					visible++
				}
				if prog.Local(in.Op) {
					local++
				}
			}
		}
		n, v, e := prog.Count(p)
		if n != all || v != visible || n-v != local || e != api.OK {
			t.Errorf("seed %d: %d, %d, %v, not %d, %d", seed, n, v, e, all, visible)
		}
	}
}
