package race_test

import (
	"cmp"
	"slices"
	"testing"

	"scarab/api"
	"scarab/canon"
	"scarab/depend"
	"scarab/race"
	"scarab/sample"
	"scarab/sched"
)

// 14.5, P7: of two events of two goroutines that depend on each other, they are a race, if and only if Clocked says so,
// and if and only if Beside does.
func TestNeighbourhoodIsClocks(t *testing.T) {
	var told [2]int
	for _, x := range plays(t, 60) {
		pairs, _ := race.Pairs(x.t)
		for i := range x.t {
			for j := i + 1; j < len(x.t); j++ {
				if x.t[i].Go == x.t[j].Go || !depend.Dependent(x.t[i], x.t[j]) {
					continue
				}
				is := slices.Contains(pairs, [2]int{i, j})
				byClock, e1 := race.Clocked(x.t, i, j)
				_, byPlace, e2 := race.Beside(x.t, i, j)
				if byClock != is || byPlace != is || e1 != api.OK || e2 != api.OK {
					t.Errorf("%d, %d: %v, %v %v, %v %v", i, j, is, byClock, e1, byPlace, e2)
				}
				if is {
					told[1]++
				} else {
					told[0]++
				}
			}
		}
	}
	if min(told[0], told[1]) < 500 {
		t.Errorf("told %v", told)
	}
}

// P7: what Beside tells is an order in which canon finds the same trace, with both side by side.
func TestBesideIsEquivalent(t *testing.T) {
	n := 0
	for _, x := range plays(t, 40) {
		pairs, _ := race.Pairs(x.t)
		for _, pair := range pairs {
			way, is, _ := race.Beside(x.t, pair[0], pair[1])
			other, e := canon.Apply(x.t, way)
			same, f := canon.Same(x.t, other)
			k := slices.Index(way, pair[0])
			if !is || e != api.OK || !same || f != api.OK || k+1 >= len(way) || way[k+1] != pair[1] {
				t.Errorf("%v: %v %v %v, %v %v", pair, way, is, e, same, f)
			}
			n++
		}
	}
	if n < 200 {
		t.Errorf("only %d races", n)
	}
}

// 14.6: a run's trace has a data race, if and only if it has a conflict; each data race is a conflict.
func TestFirstRace(t *testing.T) {
	var told [2]int
	for _, x := range runs(t, 300) {
		data, e1 := race.Data(x.p, x.t)
		conflicts, e2 := race.Conflicts(x.p, x.t)
		if (len(data) > 0) != (len(conflicts) > 0) || e1 != api.OK || e2 != api.OK {
			t.Errorf("%v %v, %v %v", data, e1, conflicts, e2)
		}
		for _, pair := range data {
			if !slices.Contains(conflicts, pair) {
				t.Errorf("%v is none of %v", pair, conflicts)
			}
		}
		if len(data) > 0 {
			told[1]++
		} else {
			told[0]++
		}
		if len(conflicts) < len(data) {
			t.Errorf("%v, %v", data, conflicts)
		}
	}
	if min(told[0], told[1]) < 100 {
		t.Errorf("told %v", told)
	}
}

// 14.7: equivalent traces have the same races, but for their places.
func TestEquivalent(t *testing.T) {
	n, moved := 0, 0
	for seed, x := range append(plays(t, 120), longest()...) {
		way := drawn(happens(x.t), uint64(seed))
		other := in(x.t, way)
		a, _ := race.Races(x.p, x.t)
		b, e := race.Races(x.p, other)
		if !slices.Equal(a, b) || e != api.OK {
			t.Errorf("%d: Races: %v, %v %v", seed, a, b, e)
		}
		for k, f := range []func([]api.Event) ([][2]int, api.Errno){race.Pairs, func(l []api.Event) ([][2]int, api.Errno) { return race.Data(x.p, l) }} {
			a, _ := f(x.t)
			b, e := f(other)
			for i := range b {
				b[i] = [2]int{way[b[i][0]], way[b[i][1]]}
			}
			slices.SortFunc(b, func(x, y [2]int) int { return cmp.Or(cmp.Compare(x[0], y[0]), cmp.Compare(x[1], y[1])) })
			if !slices.Equal(a, b) || e != api.OK {
				t.Errorf("%d: call %d: %v, %v %v", seed, k, a, b, e)
			}
		}
		n += len(a)
		if !slices.IsSorted(way) {
			moved++
		}
	}
	if n < 200 || moved < 200 {
		t.Errorf("%d races, %d in another order", n, moved)
	}
}

// 14.7: a run whose picks are changed about has the same races.
func TestSwapped(t *testing.T) {
	n := 0
	for seed := range uint64(100) {
		p, b := sample.Racy(seed), api.Budget{Steps: 30, Fuel: 20}
		picks, _ := sched.Robin(p, b)
		x, _, _ := sched.Run(p, picks, b)
		want, _ := race.Races(p, x.Events)
		for i := range picks {
			other, ok, _ := depend.Swap(p, picks, i, b)
			if !ok {
				continue
			}
			y, _, _ := sched.Run(p, other, b)
			if got, e := race.Races(p, y.Events); !slices.Equal(got, want) || e != api.OK {
				t.Errorf("seed %d, swap at %d: %v %v, not %v", seed, i, got, e, want)
			}
			n++
		}
	}
	if n < 300 {
		t.Errorf("only %d swaps", n)
	}
}

// 14.8: in a run's trace a variable with guards has no data race; what races is suspected.
func TestGuarded(t *testing.T) {
	var told [3]int
	for _, x := range runs(t, 400) {
		found, _ := race.Races(x.p, x.t)
		guards, e1 := race.Guards(x.p, x.t)
		suspects, e2 := race.Suspects(x.p, x.t)
		if len(guards) != len(x.p.Vars) || e1 != api.OK || e2 != api.OK {
			t.Fatalf("%v %v, %v %v", guards, e1, suspects, e2)
		}
		for _, one := range found {
			if len(guards[one.Num]) > 0 || !slices.Contains(suspects, one.Num) {
				t.Errorf("%v: guards %v, suspects %v", one, guards, suspects)
			}
			told[0]++
		}
		for v, l := range guards {
			users, _ := depend.Users(x.t, api.ObVar, v)
			if slices.ContainsFunc(users, func(i int) bool { return x.t[i].Go != x.t[users[0]].Go }) && len(l) > 0 {
				told[1]++
			}
		}
		for _, v := range suspects {
			if !slices.ContainsFunc(found, func(f api.Found) bool { return f.Num == v }) {
				told[2]++
			}
		}
	}
	if told[0] < 200 || told[1] < 30 || told[2] < 1 {
		t.Errorf("told %v", told)
	}
}
