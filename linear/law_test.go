package linear_test

import (
	"slices"
	"testing"

	"scarab/api"
	"scarab/canon"
	"scarab/linear"
	"scarab/race"
	"scarab/sched"
	"scarab/tree"
)

// 26.5: what Linear and Turns answer is an order, fits, and keeps time, or turns. A linearisable history is sequentially
// consistent.
func TestFound(t *testing.T) {
	var told [2]int
	histories(300, linear.MaxCalls, func(kind int, h []api.Call) {
		time, isTime, _ := linear.Linear(kind, h)
		turns, isTurns, _ := linear.Turns(kind, h)
		if isTime && !isTurns {
			t.Errorf("kind %d, %v: linearisable alone", kind, h)
		}
		if isTime {
			told[0]++
			if fits, keeps, also, e := linear.Fits(kind, h, time); !fits || !keeps || !also || e != api.OK {
				t.Errorf("kind %d, %v, %v: %v %v %v %v", kind, h, time, fits, keeps, also, e)
			}
		}
		if isTurns {
			told[1]++
			if fits, _, keeps, e := linear.Fits(kind, h, turns); !fits || !keeps || e != api.OK {
				t.Errorf("kind %d, %v, %v: %v %v %v", kind, h, turns, fits, keeps, e)
			}
		}
	})
	if told[0] < 300 || told[1] < told[0]+30 {
		t.Errorf("told %v", told)
	}
}

// 26.5: a history in which no two operations run at one time, none pending, is linearisable just if the order in which they
// began fits.
func TestOneByOne(t *testing.T) {
	var told [2]int
	histories(400, linear.MaxCalls, func(kind int, h []api.Call) {
		if len(h) == 0 || slices.ContainsFunc(h, func(c api.Call) bool { return c.End == -1 }) {
			return
		}
		order := make([]int, len(h))
		for i := range order {
			order[i] = i
		}
		slices.SortFunc(order, func(i, j int) int { return h[i].Begin - h[j].Begin })
		for n, i := range order {
			h[i].Begin, h[i].End = 2*n, 2*n+1
		}
		fits, time, turns, e := linear.Fits(kind, h, order)
		got, is, _ := linear.Linear(kind, h)
		if is != fits || is && !slices.Equal(got, order) || !time || !turns || e != api.OK {
			t.Errorf("kind %d, %v: %v %v, %v %v %v %v", kind, h, got, is, fits, time, turns, e)
		}
		if is {
			told[1]++
		} else {
			told[0]++
		}
	})
	if min(told[0], told[1]) < 100 {
		t.Errorf("told %v", told)
	}
}

// 26.6: each beginning in time of a linearisable history is linearisable.
func TestBeginnings(t *testing.T) {
	n, cut := 0, 0
	histories(300, linear.MaxCalls, func(kind int, h []api.Call) {
		if _, is, _ := linear.Linear(kind, h); !is {
			return
		}
		for _, c := range h {
			for _, moment := range []int{c.Begin, c.Begin + 1, c.End, c.End + 1} {
				var early []api.Call
				for _, c := range h {
					if c.Begin >= moment {
						continue
					}
					if c.End > moment {
						c.End, c.Out, c.Empty = -1, 0, false
						cut++
					}
					early = append(early, c)
				}
				if _, is, e := linear.Linear(kind, early); !is || e != api.OK {
					t.Errorf("kind %d, %v up to %d: %v %v", kind, h, moment, is, e)
				}
				n++
			}
		}
	})
	if n < 5000 || cut < 2000 {
		t.Errorf("%d beginnings, %d operations that end behind", n, cut)
	}
}

// Two goroutines that add 1 to a counter, by a load and a store, and main that reads it behind both.
const lost = `scarab
var 0
func 0 3
  spawn r1 f1 r0
  spawn r2 f1 r0
  join r1
  join r2
  note r0 11
  load r0 v0
  note r0 12
  end
func 0 2
  const r1 1
  note r1 31
  load r0 v0
  add r0 r0 r1
  store v0 r0
  note r0 32
  end`

// The same by one step.
const kept = `scarab
atomic 0
func 0 3
  spawn r1 f1 r0
  spawn r2 f1 r0
  join r1
  join r2
  note r0 11
  load r0 v0
  note r0 12
  end
func 0 2
  const r1 1
  note r1 31
  bump _ v0 r1
  note r0 32
  end`

// runsOf are the traces of all runs of a program.
func runsOf(t *testing.T, text string) [][]api.Event {
	t.Helper()
	p, b := parsed(t, text), api.Budget{Steps: 40, Fuel: 10, Runs: 60000}
	all, e := tree.All(p, b)
	if e != api.OK || !all.Complete {
		t.Fatal(e, all.Complete)
	}
	var l [][]api.Event
	for _, run := range all.All {
		x, _, _ := sched.Run(p, run.Picks, b)
		l = append(l, x.Events)
	}
	return l
}

// 26.2, 26.4: notes of runs: a counter that is added to by two steps loses an addition in some runs, just in those in which it
// tells 1; by one step in none.
func TestRuns(t *testing.T) {
	for _, x := range []struct {
		text  string
		loses bool
	}{{lost, true}, {kept, false}} {
		var told [2]int
		for _, l := range runsOf(t, x.text) {
			h, e := linear.Noted(l)
			if e != api.OK || len(h) != 3 || h[2].Do != api.DoRead {
				t.Fatalf("%v %v", h, e)
			}
			_, is, e := linear.Linear(api.KindCounter, h)
			_, turns, _ := linear.Turns(api.KindCounter, h)
			if e != api.OK || is != (h[2].Out == 2) || !turns {
				t.Errorf("%v: %v %v, %v", h, is, e, turns)
			}
			if is {
				told[1]++
			} else {
				told[0]++
			}
		}
		if told[1] == 0 || (told[0] > 0) != x.loses {
			t.Errorf("told %v", told)
		}
	}
}

// P7: where two events race, by clocks and so by their neighbourhood, the trace in which they stand side by side has the same
// noted history, but for its moments, and that is linearisable as the other one is. (Notes depend on each other.)
func TestBeside(t *testing.T) {
	n, moved := 0, 0
	all := runsOf(t, lost)
	for k := 0; k < len(all); k += 1 + len(all)/60 {
		l := all[k]
		pairs, _ := race.Pairs(l)
		h, _ := linear.Noted(l)
		order, is, _ := linear.Linear(api.KindCounter, h)
		for _, pair := range pairs {
			clocked, _ := race.Clocked(l, pair[0], pair[1])
			way, side, e := race.Beside(l, pair[0], pair[1])
			if !clocked || !side || e != api.OK {
				t.Fatalf("%v: %v, %v %v", pair, clocked, side, e)
			}
			other, _ := canon.Apply(l, way)
			g, e := linear.Noted(other)
			same := slices.EqualFunc(g, h, func(a, b api.Call) bool {
				a.Begin, a.End, b.Begin, b.End = 0, 0, 0, 0
				return a == b
			})
			got, also, f := linear.Linear(api.KindCounter, g)
			if !same || !slices.Equal(got, order) || also != is || e != api.OK || f != api.OK {
				t.Errorf("%v %v, %v %v: %v %v, %v %v", h, g, e, same, order, is, got, also)
			}
			n++
			if !slices.IsSorted(way) {
				moved++
			}
		}
	}
	if n < 100 || moved < 20 {
		t.Errorf("%d races, %d in another order", n, moved)
	}
}
