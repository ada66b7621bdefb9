package depend_test

import (
	"slices"
	"testing"

	"scarab/api"
	"scarab/depend"
	"scarab/prog"
	"scarab/sample"
)

// spoil makes something else of all members of a list, and of its spare room.
func spoil[T any](l []T, odd T) {
	l = l[:cap(l)]
	for i := range l {
		l[i] = odd
	}
}

// R3: answers about a trace are new memory, no two rows of a table share any, and the trace stays as it is.
func TestTraceMemory(t *testing.T) {
	odd := api.Event{Go: -7}
	for seed := range uint64(40) {
		was := sample.Trace(seed, int(seed))
		l := append(slices.Clone(was), odd, odd)[:len(was)]
		table, _ := depend.Table(l)
		kept, _ := depend.Table(l)
		for i := range table {
			spoil(table[i], !kept[i][i])
			for j := i + 1; j < len(table); j++ {
				if !slices.Equal(table[j], kept[j]) {
					t.Fatalf("rows %d and %d share memory", i, j)
				}
			}
		}
		spoil(table, nil)
		if again, _ := depend.Table(l); !slices.EqualFunc(again, kept, slices.Equal) {
			t.Error("a table is kept")
		}
		objects, _ := depend.Objects(l)
		list := slices.Clone(objects)
		spoil(objects, w(-7, -7))
		if again, _ := depend.Objects(l); !slices.Equal(again, list) {
			t.Error("objects are kept")
		}
		users, _ := depend.Users(l, api.ObGo, 0)
		places := slices.Clone(users)
		spoil(users, -7)
		if again, _ := depend.Users(l, api.ObGo, 0); !slices.Equal(again, places) {
			t.Error("users are kept")
		}
		if !slices.Equal(l, was) || l[:len(was)+2][len(was)] != odd {
			t.Error("a call changes a trace")
		}
	}
}

// R3: lists of accesses stay as they are.
func TestClashMemory(t *testing.T) {
	for _, n := range []int{3, 40} {
		a, b := make([]api.Access, n, n+2), make([]api.Access, n, n+2)
		for i := range n {
			a[i], b[i] = r(9-i, i), w(i, 9-i)
		}
		a1, b1 := slices.Clone(a), slices.Clone(b)
		depend.Clash(a, b)
		if !slices.Equal(a, a1) || !slices.Equal(b, b1) || a[:n+2][n] != (api.Access{}) || b[:n+2][n+1] != (api.Access{}) {
			t.Error("Clash changes its accesses")
		}
	}
}

// R3: what Swap and Sink tell is new memory, and picks and programs stay as they are, spare room too.
func TestMoveMemory(t *testing.T) {
	odd := api.Pick{Go: -7}
	for _, x := range plays(t, 40) {
		before := prog.Copy(x.p)
		picks := append(slices.Clone(x.picks), odd, odd)[:len(x.picks)]
		for i := range picks {
			swap, _, _ := depend.Swap(x.p, picks, i, x.b)
			sink, _, _ := depend.Sink(x.p, picks, i, x.b)
			swapped, sunk := slices.Clone(swap), slices.Clone(sink)
			spoil(swap, odd)
			spoil(sink, odd)
			if again, _, _ := depend.Swap(x.p, picks, i, x.b); !slices.Equal(again, swapped) {
				t.Error("Swap's picks are kept")
			}
			if again, _, _ := depend.Sink(x.p, picks, i, x.b); !slices.Equal(again, sunk) {
				t.Error("Sink's picks are kept")
			}
		}
		if !slices.Equal(picks, x.picks) || picks[:len(picks)+2][len(picks)] != odd || !prog.Same(x.p, before) {
			t.Error("a call changes its arguments")
		}
	}
}

// P1: calls with any events, picks, places and budgets end without a panic.
func TestAnything(t *testing.T) {
	for seed := range uint64(200) {
		n := sample.Choices(seed, 40)
		x := api.Event{Go: n[0], Touches: n[1]}
		for i := range x.Touch {
			x.Touch[i] = api.Access{Kind: n[2+i], Num: n[8+i], Write: n[14+i]%2 == 0}
		}
		l := []api.Event{event(0), x}
		depend.Dependent(x, x)
		depend.Clash(x.Touch[:], x.Touch[:])
		depend.Check(l)
		depend.Table(l)
		depend.Objects(l)
		depend.Users(l, n[20], n[21])
		p := sample.Prog(seed)
		picks := []api.Pick{{Go: n[22], Alt: n[23]}, {Go: n[24], Alt: n[25]}}
		for _, b := range []api.Budget{enough, {Steps: n[26], Fuel: n[27], Runs: n[28]}} {
			for _, q := range []api.Prog{p, {}, {Funcs: make([]api.Func, 2)}} {
				depend.Swap(q, picks, n[29], b)
				depend.Sink(q, picks, n[30], b)
			}
		}
	}
}
