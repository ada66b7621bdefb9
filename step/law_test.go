package step_test

import (
	"slices"
	"testing"

	"scarab/api"
	"scarab/state"
	"scarab/step"
)

// lawful are the states of which laws are asked.
func lawful(t *testing.T) []thing { return append(things(700), runs(t, 200)...) }

// taken is the state behind a step that is ready, and its event.
func taken(t *testing.T, x thing, pick api.Pick) (thing, api.Event) {
	t.Helper()
	s, event, e := step.Do(x.p, x.s, pick, 12)
	if e != api.OK {
		t.Fatalf("%v: %v", pick, e)
	}
	return thing{x.p, s}, event
}

// ready are the picks that are ready, touch is what a goroutine's next step touches.
func ready(x thing) []api.Pick {
	l, _ := step.Ready(x.p, x.s)
	return l
}

func touch(x thing, g int) []api.Access {
	l, _ := step.Touch(x.p, x.s, g)
	return l
}

// 8.5: the state behind a step is one of the program, and the event has what Touch said ahead of it; the goroutine alone
// is changed, a new one may be there, and of the rest nothing is changed that is not touched as written.
func TestStepChanges(t *testing.T) {
	for _, x := range lawful(t) {
		for _, pick := range ready(x) {
			behind, event := taken(t, x, pick)
			if !state.Valid(x.p, behind.s) {
				t.Errorf("%v leads to no state", pick)
			}
			said := touch(x, pick.Go)
			if !slices.Equal(said, event.Touch[:event.Touches]) || slices.ContainsFunc(event.Touch[event.Touches:], func(a api.Access) bool { return a != (api.Access{}) }) {
				t.Errorf("%v, not %v", event.Touch, said)
			}
			unlike(t, x.s, behind.s, func(kind, num int) bool { return slices.Contains(said, w(kind, num)) })
		}
	}
}

// unlike asks that what is unlike in two states is written.
func unlike(t *testing.T, a, b api.State, written func(kind, num int) bool) {
	t.Helper()
	if a.Count != b.Count && !written(api.ObGos, 0) {
		t.Error("one more")
	}
	for n := range a.Vars {
		if a.Vars[n] != b.Vars[n] && !written(api.ObVar, n) {
			t.Errorf("variable %d", n)
		}
	}
	for n := range a.Owner {
		if a.Owner[n] != b.Owner[n] && !written(api.ObLock, n) {
			t.Errorf("lock %d", n)
		}
	}
	for n := range a.Chans {
		if a.Chans[n] != b.Chans[n] && !written(api.ObChan, n) {
			t.Errorf("channel %d", n)
		}
	}
	for n := range a.Gos {
		if a.Gos[n] != b.Gos[n] && !written(api.ObGo, n) {
			t.Errorf("goroutine %d", n)
		}
	}
}

// 8.6: independent steps commute.
func TestCommute(t *testing.T) {
	pairs := 0
	for i, x := range lawful(t) {
		l := ready(x)
		for _, a := range l {
			for _, b := range l {
				if a.Go >= b.Go || clash(touch(x, a.Go), touch(x, b.Go)) {
					continue
				}
				pairs++
				first, ea := taken(t, x, a)
				second, eb := taken(t, x, b)
				if !slices.Equal(of(ready(first), b.Go), of(l, b.Go)) || !slices.Equal(of(ready(second), a.Go), of(l, a.Go)) {
					t.Errorf("%d: other alternatives", i)
				}
				ab, ebLater := taken(t, first, b)
				ba, eaLater := taken(t, second, a)
				if ab.s != ba.s || ea != eaLater || eb != ebLater {
					t.Errorf("%d: %v and %v do not commute", i, a, b)
				}
			}
		}
	}
	if pairs < 1000 {
		t.Errorf("only %d pairs", pairs)
	}
}

// of are the picks of a goroutine.
func of(l []api.Pick, g int) []api.Pick {
	return slices.DeleteFunc(slices.Clone(l), func(p api.Pick) bool { return p.Go != g })
}

// 8.6, 8.7: a step that has nothing in common with another goroutine's next one changes nothing of that: not whether it
// is ready, not its alternatives, not what it touches, nor who holds it up.
func TestIndependent(t *testing.T) {
	made := 0
	for i, x := range lawful(t) {
		for _, pick := range ready(x) {
			behind, event := taken(t, x, pick)
			for _, g := range state.Live(x.s) {
				if g == pick.Go {
					continue
				}
				was, is := of(ready(x), g), of(ready(behind), g)
				if clash(touch(x, g), event.Touch[:event.Touches]) {
					if len(was) == 0 && len(is) > 0 {
						made++
					}
					continue
				}
				if !slices.Equal(was, is) || !slices.Equal(touch(x, g), touch(behind, g)) {
					t.Errorf("%d: behind %v %d has %v, not %v", i, pick, g, is, was)
				}
				a, _ := step.Blame(x.p, x.s, g)
				if b, _ := step.Blame(x.p, behind.s, g); !slices.Equal(a, b) {
					t.Errorf("%d: behind %v %d is held up by %v, not %v", i, pick, g, b, a)
				}
			}
		}
	}
	if made < 20 {
		t.Errorf("only %d were made ready", made)
	}
}
