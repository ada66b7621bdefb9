package step_test

import (
	"slices"
	"testing"

	"scarab/api"
	"scarab/prog"
	"scarab/step"
)

// answer is what a call told: how much, and its error.
type answer struct {
	size int
	e    api.Errno
}

func told[T any](l []T, e api.Errno) answer { return answer{len(l), e} }

// answers are those of all calls: first those that ask for a goroutine, then those of the whole state; the last one is
// Do's of the pick of that goroutine.
func answers(p api.Prog, s api.State, g, fuel int) []answer {
	op, e := step.Op(p, s, g)
	l := []answer{
		{int(op), e}, told(step.Alts(p, s, g)), told(step.Touch(p, s, g)), told(step.Blame(p, s, g)),
		told(step.Ready(p, s)), told(step.Waiting(p, s)),
	}
	behind, event, e := step.Do(p, s, api.Pick{Go: g}, fuel)
	size := 0
	if behind != (api.State{}) || event != (api.Event{}) {
		size = 1
	}
	return append(l, answer{size, e})
}

// refused asks that all calls tell one error, and nothing else.
func refused(t *testing.T, what string, p api.Prog, s api.State, g, fuel int, want api.Errno) {
	t.Helper()
	for i, a := range answers(p, s, g, fuel) {
		if a != (answer{0, want}) {
			t.Errorf("%s, %d %d, call %d: %v, not %v", what, g, fuel, i, a, want)
		}
	}
}

// R1: a program that is not right comes first, then a state that is none of it.
func TestErrProgState(t *testing.T) {
	p := bench(api.Instr{Op: api.OpYield})
	falls, lost := prog.Copy(p), prog.Copy(p)
	falls.Funcs[0].Code = falls.Funcs[0].Code[:1]
	lost.Funcs[0].Code[0] = api.Instr{Op: api.OpTaken}
	bad := standing(0)
	bad.Owner[0] = 2
	nobody := standing(1)
	for _, x := range append([]int{0, 5, 6, 9}, far...) {
		for _, wrong := range []api.Prog{{}, falls, lost} {
			refused(t, "no program", wrong, standing(0), x, x, api.ErrProg)
			refused(t, "no program, no state", wrong, api.State{}, x, x, api.ErrProg)
		}
		for _, s := range []api.State{{}, bad, nobody} {
			refused(t, "no state", p, s, x, x, api.ErrState)
		}
	}
}

// 8.1 to 8.4: a goroutine's number out of its range; one that is not there, or has ended.
func TestErrArgNone(t *testing.T) {
	p := bench(api.Instr{Op: api.OpSend, A: plain})
	s := standing(0, 0, 0, 0)
	s.Gos[1] = api.Go{Status: api.GoDone, PC: 3}
	s.Gos[2] = api.Go{Status: api.GoFailed, Why: api.WhyClosed}
	s.Gos[3] = api.Go{Status: api.GoSpun, PC: 3}
	goroutine := func(g int, want api.Errno) {
		t.Helper()
		l := answers(p, s, g, 9)
		for i, a := range l[:4] {
			if a != (answer{0, want}) {
				t.Errorf("%d, call %d: %v, not %v", g, i, a, want)
			}
		}
		if last := l[6]; last != (answer{0, api.ErrPick}) {
			t.Errorf("%d: Do tells %v", g, last)
		}
	}
	for _, g := range append([]int{6, 7}, far...) {
		goroutine(g, api.ErrArg)
	}
	for g := 1; g < 6; g++ {
		goroutine(g, api.ErrNone)
	}
	for i, a := range answers(p, s, 0, 9) {
		if a.e != api.OK {
			t.Errorf("call %d: %v", i, a)
		}
	}
}

// 8.3: a fuel out of its range comes ahead of a pick that is not ready; both ends of its range are fuels.
func TestErrFuelPick(t *testing.T) {
	p := bench(api.Instr{Op: api.OpLock})
	s := standing(0)
	held := changed(s, func(s *api.State) { s.Owner[0] = 1 })
	do := func(s api.State, pick api.Pick, fuel int, want api.Errno) {
		t.Helper()
		u, x, e := step.Do(p, s, pick, fuel)
		if e != want || e != api.OK && (u != (api.State{}) || x != (api.Event{})) {
			t.Errorf("%v, fuel %d: %v, not %v", pick, fuel, e, want)
		}
	}
	for _, x := range far {
		do(s, api.Pick{}, x, api.ErrArg)
		do(held, api.Pick{}, x, api.ErrArg)
		do(s, api.Pick{Go: x, Alt: x}, x, api.ErrArg)
		do(s, api.Pick{Go: x}, 9, api.ErrPick)
		do(s, api.Pick{Alt: x}, 9, api.ErrPick)
	}
	do(s, api.Pick{}, 0, api.OK)
	do(s, api.Pick{}, api.MaxFuel, api.OK)
	do(s, api.Pick{Alt: 1}, 9, api.ErrPick)
	do(s, api.Pick{Go: 1}, 9, api.ErrPick)
	do(held, api.Pick{}, 9, api.ErrPick)
}

// 8.1: the else of a select is no alternative where a case is ready; alternatives beyond it are none.
func TestErrPickSelect(t *testing.T) {
	p := choice(0)
	full := chans(standing(0), double, api.Chan{Len: 2})
	for alt := -2; alt < 6; alt++ {
		want := api.ErrPick
		if alt == 1 {
			want = api.OK
		}
		if _, _, e := step.Do(p, full, api.Pick{Alt: alt}, 9); e != want {
			t.Errorf("%d: %v", alt, e)
		}
	}
}

// twice asks that two answers to one call are the same, whatever is done to the first one's memory, spare room too.
func twice[T comparable](t *testing.T, call func() ([]T, api.Errno), odd T) {
	t.Helper()
	first, _ := call()
	kept := slices.Clone(first)
	first = first[:cap(first)]
	for i := range first {
		first[i] = odd
	}
	if again, _ := call(); !slices.Equal(again, kept) {
		t.Errorf("%v, and then %v", kept, again)
	}
}

// R3: programs stay as they are, and answers are new memory.
func TestMemory(t *testing.T) {
	for _, x := range things(60) {
		before := prog.Copy(x.p)
		for g := range x.s.Count {
			twice(t, func() ([]int, api.Errno) { return step.Alts(x.p, x.s, g) }, -7)
			twice(t, func() ([]int, api.Errno) { return step.Blame(x.p, x.s, g) }, -7)
			twice(t, func() ([]api.Access, api.Errno) { return step.Touch(x.p, x.s, g) }, api.Access{Kind: -7})
		}
		twice(t, func() ([]int, api.Errno) { return step.Waiting(x.p, x.s) }, -7)
		twice(t, func() ([]api.Pick, api.Errno) { return step.Ready(x.p, x.s) }, api.Pick{Go: -7})
		for _, pick := range ready(x) {
			step.Do(x.p, x.s, pick, 9)
		}
		if !prog.Same(x.p, before) {
			t.Error("a call changes its program")
		}
	}
}
