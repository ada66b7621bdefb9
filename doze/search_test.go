package doze

import (
	"slices"
	"testing"

	"scarab/api"
	"scarab/asm"
	"scarab/sample"
	"scarab/state"
	"scarab/step"
)

// What next steps touch is step.Touch's; two clash, if they touch an object that one of both writes; each clashes with
// itself; of others than those that are asked for nothing is told.
func TestClashes(t *testing.T) {
	told := 0
	for seed := range uint64(200) {
		p := sample.Small(seed)
		s := sample.State(p, seed)
		var some Set
		for _, g := range state.Live(s) {
			if (seed>>g)&3 > 0 {
				some |= One(g)
			}
		}
		touch := Touches(p, s, some)
		clash := Clashes(touch)
		for g := range api.MaxGos {
			want, _ := step.Touch(p, s, g)
			if some.Has(g) && !slices.Equal(touch[g], want) || !some.Has(g) && len(touch[g]) > 0 {
				t.Errorf("seed %d: %d touches %v", seed, g, touch[g])
			}
			for h := range api.MaxGos {
				want := some.Has(g) && some.Has(h) && meets(t, p, s, g, h)
				if clash[g].Has(h) != want {
					t.Errorf("seed %d: %d and %d: %v", seed, g, h, !want)
				}
				if g != h && want {
					told++
				}
			}
		}
	}
	if told < 50 {
		t.Errorf("told %d", told)
	}
}

// meets tells whether next steps clash, access by access.
func meets(t *testing.T, p api.Prog, s api.State, g, h int) bool {
	t.Helper()
	a, e := step.Touch(p, s, g)
	b, e1 := step.Touch(p, s, h)
	if e != api.OK || e1 != api.OK {
		t.Fatal(e, e1)
	}
	return slices.ContainsFunc(a, func(x api.Access) bool {
		return slices.ContainsFunc(b, func(y api.Access) bool {
			return x.Kind == y.Kind && x.Num == y.Num && (x.Write || y.Write)
		})
	})
}

// The search goes through the goroutines that it is told alone, whatever else is told of such as are not ready; where
// these sleep it gives up.
func TestAmong(t *testing.T) {
	p, e, _ := asm.Parse("scarab\nfunc 0 0\nspawn _ f1 r0\nyield\nend\nfunc 0 0\nyield\nend")
	if e != api.OK {
		t.Fatal(e)
	}
	b := api.Budget{Steps: 9, Fuel: 9, Runs: 9}
	last := func(_ api.State, ready Set) Set {
		all := slices.Collect(ready.Each())
		return One(all[len(all)-1]) | One(5)
	}
	l, e := All(p, b, last)
	if want := []api.Pick{{}, {Go: 1}, {}}; e != api.OK || !l.Complete || len(l.All) != 1 || !slices.Equal(l.All[0].Picks, want) {
		t.Errorf("the last alone: %v %v", l, e)
	}
	everyone := func(_ api.State, ready Set) Set { return ready | One(4) }
	if n, given, e := Tally(p, b, everyone); n != 1 || given != 1 || e != api.OK {
		t.Errorf("both: %d %d %v", n, given, e)
	}
}
