package doze

import (
	"slices"
	"testing"

	"scarab/api"
	"scarab/sample"
	"scarab/step"
)

// A set has just the members that it was made of.
func TestSet(t *testing.T) {
	for n := range 1 << api.MaxGos {
		var l []int
		var s Set
		for g := range api.MaxGos {
			if n>>g&1 == 1 {
				l = append(l, g)
				s |= One(g)
			}
		}
		if !slices.Equal(slices.Collect(s.Each()), l) || s.Len() != len(l) {
			t.Errorf("%v: %v, %d", l, slices.Collect(s.Each()), s.Len())
		}
		for g := range api.MaxGos {
			less := slices.DeleteFunc(slices.Clone(l), func(h int) bool { return h >= g })
			if s.Has(g) != slices.Contains(l, g) || !slices.Equal(slices.Collect(s.Below(g).Each()), less) {
				t.Errorf("%v at %d: %v, %v", l, g, s.Has(g), slices.Collect(s.Below(g).Each()))
			}
		}
		if len(l) > 0 && s.Least() != l[0] {
			t.Errorf("%v: the least is %d", l, s.Least())
		}
		for g := range s.Each() { // it may be left early
			if g != l[0] {
				t.Errorf("%v begins with %d", l, g)
			}
			break
		}
	}
}

// Ready are the goroutines of step.Ready's picks, with its errors.
func TestReady(t *testing.T) {
	for seed := range uint64(100) {
		p := sample.Small(seed)
		s := sample.State(p, seed)
		picks, _ := step.Ready(p, s)
		set, e := Ready(p, s)
		for g := range api.MaxGos {
			if has := slices.ContainsFunc(picks, func(x api.Pick) bool { return x.Go == g }); e != api.OK || set.Has(g) != has {
				t.Errorf("seed %d: %d %v %v", seed, g, set.Has(g), e)
			}
		}
		s.Count = -1
		if set, e := Ready(p, s); set != 0 || e != api.ErrState {
			t.Errorf("seed %d: %v %v", seed, set, e)
		}
	}
}
