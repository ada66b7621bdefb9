package state_test

import (
	"fmt"
	"math"
	"reflect"
	"slices"
	"strings"
	"testing"

	"scarab/api"
	"scarab/flow"
	"scarab/prog"
	"scarab/sample"
	"scarab/state"
)

// started asks what main is when a program begins.
func started(t *testing.T, what string, p api.Prog, fuel int, want api.Go) {
	t.Helper()
	s, e := state.Start(p, fuel)
	if e != api.OK || s.Gos[0] != want {
		t.Errorf("%s, fuel %d: %v %v, not %v", what, fuel, s.Gos[0], e, want)
	}
}

// 7.2: the chapter's examples.
func TestStartExamples(t *testing.T) {
	set := one(2, number(0, 5), yield(), end())
	started(t, "const", set, 1, api.Go{Status: api.GoLive, PC: 1, Regs: [8]int64{5}})
	started(t, "const", set, 0, api.Go{Status: api.GoSpun})
	round := one(0, api.Instr{Op: api.OpJump}, end())
	for _, fuel := range []int{0, 1, 2, 100, api.MaxFuel} {
		started(t, "jump 0", round, fuel, api.Go{Status: api.GoSpun})
	}
	started(t, "end", one(0, end()), 1, api.Go{Status: api.GoDone})
	started(t, "end", one(0, end()), 0, api.Go{Status: api.GoSpun})
	zero := one(2, number(0, 1), binary(api.OpDiv, 0, 1), end())
	started(t, "div", zero, 9, api.Go{Status: api.GoFailed, PC: 1, Why: api.WhyZero})
	started(t, "div", zero, 2, api.Go{Status: api.GoFailed, PC: 1, Why: api.WhyZero})
	started(t, "div", zero, 1, api.Go{Status: api.GoSpun, PC: 1, Regs: [8]int64{1}})
}

// 7.2: all of the state in which a program begins.
func TestStartState(t *testing.T) {
	s, e := state.Start(busy(), 9)
	want := api.State{Count: 1, Vars: [8]int64{5, -7, math.MinInt64}}
	// behind the const and the assert the division by 0 fails.
	want.Gos[0] = api.Go{Status: api.GoFailed, PC: atDiv, Why: api.WhyZero}
	if e != api.OK || s != want {
		t.Errorf("%v, %+v", e, s)
	}
	// nothing but main and the variables: goroutines, locks and channels are as in a state without any.
	p := sample.Small(3)
	s, _ = state.Start(p, 0)
	for v, x := range p.Vars {
		if s.Vars[v] != x.Init {
			t.Errorf("v%d begins with %d", v, s.Vars[v])
		}
	}
	if s.Owner != [4]int{} || s.Chans != [4]api.Chan{} || s.Count != 1 {
		t.Errorf("%+v", s)
	}
}

// 7.2: what each kind of local instruction does.
func TestStartLocals(t *testing.T) {
	live := func(pc int, regs ...int64) api.Go {
		it := api.Go{Status: api.GoLive, PC: pc}
		copy(it.Regs[:], regs)
		return it
	}
	failed := func(pc, why int) api.Go { return api.Go{Status: api.GoFailed, PC: pc, Why: why} }
	cases := []struct {
		what string
		code []api.Instr
		fuel int
		want api.Go
	}{
		{"move", []api.Instr{number(1, 7), {Op: api.OpMove, A: 2, B: 1}, yield(), end()}, 2, live(2, 0, 7, 7)},
		{"one number", []api.Instr{number(1, 7), {Op: api.OpNeg, A: 2, B: 1}, yield(), end()}, 2, live(2, 0, 7, -7)},
		{"two numbers", []api.Instr{number(0, 2), number(1, 9), {Op: api.OpSub, A: 2, B: 0, C: 1}, yield(), end()}, 3, live(3, 2, 9, -7)},
		{"into an operand", []api.Instr{number(0, 2), number(1, 9), {Op: api.OpSub, A: 1, B: 0, C: 1}, yield(), end()}, 3, live(3, 2, -7)},
		{"it goes round", []api.Instr{number(0, math.MaxInt64), {Op: api.OpAdd}, yield(), end()}, 2, live(2, -2)},
		{"the least by -1", []api.Instr{number(0, math.MinInt64), number(1, -1), binary(api.OpDiv, 0, 1), yield(), end()}, 3, live(3, math.MinInt64, -1)},
		{"jump", []api.Instr{{Op: api.OpJump, A: 2}, end(), yield(), end()}, 1, live(2)},
		{"jump back", []api.Instr{{Op: api.OpJump, A: 2}, yield(), {Op: api.OpJump, A: 1}}, 2, live(1)},
		{"if, not 0", []api.Instr{number(0, -1), {Op: api.OpIf, A: 0, B: 3}, yield(), yield(), end()}, 2, live(3, -1)},
		{"if, 0", []api.Instr{{Op: api.OpIf, A: 0, B: 2}, yield(), yield(), end()}, 1, live(1)},
		{"assert, not 0", []api.Instr{number(0, -1), {Op: api.OpAssert, N: 5}, yield(), end()}, 2, live(2, -1)},
		{"assert, 0", []api.Instr{number(1, 8), {Op: api.OpAssert, N: 5}, yield(), end()}, 2, failed(1, api.WhyAssert)},
		{"assert, 0, no fuel", []api.Instr{{Op: api.OpAssert}, yield(), end()}, 0, api.Go{Status: api.GoSpun}},
		{"rem by 0", []api.Instr{number(1, 8), binary(api.OpRem, 1, 0), end()}, 2, failed(1, api.WhyZero)},
		{"shl by less than 0", []api.Instr{number(1, -1), binary(api.OpShl, 1, 1), end()}, 2, failed(1, api.WhyShift)},
		{"shr by less than 0", []api.Instr{number(1, -1), binary(api.OpShr, 1, 1), end()}, 2, failed(1, api.WhyShift)},
		{"ushr by less than 0", []api.Instr{number(1, -1), binary(api.OpUshr, 1, 1), end()}, 2, failed(1, api.WhyShift)},
		{"done", []api.Instr{number(1, -1), end()}, 2, api.Go{Status: api.GoDone, PC: 1}},
		{"spun at the end", []api.Instr{number(1, -1), end()}, 1, api.Go{Status: api.GoSpun, PC: 1, Regs: [8]int64{0, -1}}},
		{"a visible one asks for no fuel", []api.Instr{yield(), end()}, 0, live(0)},
	}
	for _, c := range cases {
		started(t, c.what, one(3, c.code...), c.fuel, c.want)
	}
}

// 7.2: a code that counts, as far as each fuel goes.
func TestFuel(t *testing.T) {
	p := one(2, number(1, 1), api.Instr{Op: api.OpAdd, B: 0, C: 1}, api.Instr{Op: api.OpJump, A: 1})
	for _, fuel := range []int{0, 1, 2, 3, 4, 1000, 4095, api.MaxFuel} {
		want := api.Go{Status: api.GoSpun}
		if fuel > 0 {
			want.Regs = [8]int64{int64(fuel / 2), 1}
			want.PC = 1 + (fuel-1)%2
		}
		started(t, "count", p, fuel, want)
	}
}

// 7.2, R1: what is wrong is told, the first one of all.
func TestErrors(t *testing.T) {
	started, _ := state.Start(busy(), 9)
	start := func(p api.Prog, fuel int, want api.Errno) {
		t.Helper()
		if s, e := state.Start(p, fuel); e != want || s != (api.State{}) {
			t.Errorf("Start, fuel %d: %v, not %v", fuel, e, want)
		}
	}
	settle := func(p api.Prog, s api.State, g, fuel int, want api.Errno) {
		t.Helper()
		if s, e := state.Settle(p, s, g, fuel); e != want || s != (api.State{}) {
			t.Errorf("Settle of %d, fuel %d: %v, not %v", g, fuel, e, want)
		}
	}
	for _, x := range append([]int{0, 9}, far...) {
		for _, p := range wrongs() {
			start(p, x, api.ErrProg)
			settle(p, started, x, x, api.ErrProg)
			settle(p, api.State{}, x, x, api.ErrProg)
		}
		settle(busy(), api.State{}, x, x, api.ErrState)
		settle(one(0, end()), crowd(), x, x, api.ErrState)
	}
	for _, x := range far {
		start(busy(), x, api.ErrArg)
		settle(busy(), started, x, 9, api.ErrArg)
		settle(busy(), started, 0, x, api.ErrArg)
		settle(busy(), started, 5, x, api.ErrArg)
		settle(busy(), crowd(), 2, x, api.ErrArg)
	}
	settle(busy(), started, 6, 9, api.ErrArg)
	for g := 1; g < 6; g++ {
		settle(busy(), started, g, 9, api.ErrNone)
	}
}

// 7.2: those that wait, are done or failed stay as they are; live and spun ones run.
func TestSettle(t *testing.T) {
	for _, g := range []int{0, 1, 2, 3, 5} {
		for _, fuel := range []int{0, 1, api.MaxFuel} {
			if s, e := state.Settle(busy(), crowd(), g, fuel); e != api.OK || s != crowd() {
				t.Errorf("%d: %v, %+v", g, e, s)
			}
		}
	}
	want := crowd()
	if s, e := state.Settle(busy(), crowd(), 4, 0); e != api.OK || s != want {
		t.Errorf("without fuel: %v, %+v", e, s)
	}
	want.Gos[4].PC = atEnd
	if s, e := state.Settle(busy(), crowd(), 4, 1); e != api.OK || s != want {
		t.Errorf("a jump: %v, %+v", e, s)
	}
	want.Gos[4] = api.Go{Status: api.GoDone, PC: atEnd}
	if s, e := state.Settle(busy(), crowd(), 4, 2); e != api.OK || s != want {
		t.Errorf("to the end: %v, %+v", e, s)
	}
	unsettled := crowd()
	unsettled.Gos[0].PC = atJump
	want = unsettled
	want.Gos[0].Status = api.GoSpun
	if s, e := state.Settle(busy(), unsettled, 0, 0); e != api.OK || s != want {
		t.Errorf("a live one without fuel: %v, %+v", e, s)
	}
	again := want
	again.Gos[0].PC = atEnd
	if s, e := state.Settle(busy(), want, 0, 1); e != api.OK || s != again {
		t.Errorf("and with one again: %v, %+v", e, s)
	}
}

// 7.2, 7.6: of any program and state Settle does to the goroutine what the chapter's words say, and nothing else; what
// Start and Settle tell are states.
func TestSettleAny(t *testing.T) {
	ends := map[int]int{}
	for i, p := range locals() {
		begun, e := state.Start(p, i)
		if want := ran(p.Funcs[0].Code, api.Go{Status: api.GoLive}, i); e != api.OK || begun.Gos[0] != want || !state.Valid(p, begun) {
			t.Fatalf("program %d: %v, %v, not %v", i, e, begun.Gos[0], want)
		}
		for seed := range uint64(20) {
			s := sample.State(p, seed)
			for g := range s.Count {
				fuel := int(seed) * g
				want := s
				if it := s.Gos[g]; it.Status == api.GoLive || it.Status == api.GoSpun {
					it.Status = api.GoLive
					want.Gos[g] = ran(p.Funcs[it.Func].Code, it, fuel)
				}
				got, e := state.Settle(p, s, g, fuel)
				if e != api.OK || got != want || !state.Valid(p, got) {
					t.Fatalf("program %d, state %d, goroutine %d: %v, %v, not %v", i, seed, g, e, got.Gos[g], want.Gos[g])
				}
				ends[got.Gos[g].Status*10+got.Gos[g].Why]++
			}
		}
	}
	for _, k := range []int{10, 20, 30, 41, 42, 43, 50} {
		if ends[k] < 3 {
			t.Errorf("only %d end so: %d", ends[k], k)
		}
	}
}

// 7.6: fuel can be given in two parts. 7.7: it does not matter which goroutine comes first.
func TestSettleLaws(t *testing.T) {
	settle := func(p api.Prog, s api.State, g, fuel int) api.State {
		t.Helper()
		s, e := state.Settle(p, s, g, fuel)
		if e != api.OK {
			t.Fatal(e)
		}
		return s
	}
	for i, p := range locals() {
		for seed := range uint64(6) {
			s := sample.State(p, seed)
			for g := range s.Count {
				for a := range 5 {
					b := int(seed)
					if once := settle(p, s, g, a); once.Gos[g].Status == api.GoSpun && settle(p, once, g, b) != settle(p, s, g, a+b) {
						t.Errorf("program %d, state %d: fuel %d and %d is not both at once", i, seed, a, b)
					}
				}
				for h := range s.Count {
					if g != h && settle(p, settle(p, s, g, 3), h, 4) != settle(p, settle(p, s, h, 4), g, 3) {
						t.Errorf("program %d, state %d: %d and %d are not the same about", i, seed, g, h)
					}
				}
			}
		}
	}
}

// 6.5: with a fuel from flow.Longest on nothing spins.
func TestLongest(t *testing.T) {
	for i, p := range locals() {
		for seed := range uint64(10) {
			s := sample.State(p, seed)
			for g := range s.Count {
				n, e := flow.Longest(p, s.Gos[g].Func, s.Gos[g].PC)
				if e != api.OK {
					t.Fatal(e)
				}
				if n == -1 {
					continue
				}
				for fuel := n; fuel < n+3; fuel++ {
					if got, _ := state.Settle(p, s, g, fuel); got.Gos[g].Status == api.GoSpun {
						t.Errorf("program %d: it spins with %d", i, fuel)
					}
				}
			}
		}
	}
}

// 7.3: the live ones, of any state.
func TestLive(t *testing.T) {
	cases := []struct {
		s    api.State
		want []int
	}{
		{api.State{}, nil},
		{crowd(), []int{0, 1, 5}},
		{api.State{Count: 2, Gos: [6]api.Go{{Status: api.GoDone}, {Status: api.GoWait}}}, []int{1}},
		{api.State{Gos: [6]api.Go{{Status: 1}, {Status: 2}, {Status: 1}, {Status: 2}, {Status: 1}, {Status: 2}}}, []int{0, 1, 2, 3, 4, 5}},
		{api.State{Count: -1, Gos: [6]api.Go{5: {Status: 1}}}, []int{5}},
		{api.State{Count: math.MaxInt, Gos: [6]api.Go{{Status: 0}, {Status: 3}, {Status: 4}, {Status: 5}, {Status: 6}, {Status: -1}}}, nil},
	}
	for _, c := range cases {
		if l := state.Live(c.s); !slices.Equal(l, c.want) {
			t.Errorf("%v, not %v", l, c.want)
		}
	}
	l := state.Live(crowd())
	l[0] = 9
	if again := state.Live(crowd()); again[0] != 0 {
		t.Error("an answer is kept")
	}
}

// spelt is a state's text by the library.
func spelt(s api.State) string {
	return strings.NewReplacer("{", "", "}", "", "[", "", "]", "", "true", "1", "false", "0").Replace(fmt.Sprint(s))
}

// 7.4: a text, written out, and those of any states.
func TestText(t *testing.T) {
	zero := strings.Repeat("0 ", 120) + "0"
	if got := state.Text(api.State{}); got != zero {
		t.Errorf("%q", got)
	}
	want := "1 2 3 0 0 0 0 0 " + "6 1 0 0 " +
		"0 0 0 0 0 0 1 1 4 " + "8 0 0 0 2 1 0 0 0 " + "0 0 0 0 0 1 3 5 0 " + "0 0 0 0 0 0 0 0 0 " +
		"1 0 15 0 1 2 3 0 0 0 0 0 " + "2 0 7 0 4 5 6 0 0 0 0 0 " + "3 0 18 0 0 0 0 0 0 0 0 0 " +
		"4 0 13 7 0 0 0 0 0 0 0 0 " + "5 0 17 0 0 0 9 0 0 0 0 0 " + "2 1 0 0 7 0 0 0 0 0 0 0 " + "6"
	if got := state.Text(crowd()); got != want {
		t.Errorf("%q", got)
	}
	s := crowd()
	n := int64(-3)
	leaves(&s, func(v reflect.Value) {
		if v.Kind() == reflect.Bool {
			v.SetBool(!v.Bool())
			return
		}
		v.SetInt(n)
		n = n*-7 + 1
	})
	for _, s := range []api.State{s, {Vars: [8]int64{math.MinInt64, math.MaxInt64}, Count: math.MinInt}} {
		if got := state.Text(s); got != spelt(s) {
			t.Errorf("%q", got)
		}
	}
	for seed := range uint64(100) {
		s := sample.State(sample.Small(seed), seed)
		if got := state.Text(s); got != spelt(s) {
			t.Errorf("%q", got)
		}
	}
}

// 7.6: two states are the same just if their texts are: each field is in the text, at a place of its own.
func TestTextApart(t *testing.T) {
	s := crowd()
	texts := map[string]int{state.Text(s): 0}
	n := 1
	leaves(&s, func(v reflect.Value) {
		was := reflect.ValueOf(v.Interface())
		if v.Kind() == reflect.Bool {
			v.SetBool(!v.Bool())
			texts[state.Text(s)]++
			n++
		} else {
			for _, x := range []int64{-9, 99, 11, 1111} {
				v.SetInt(x)
				texts[state.Text(s)]++
				n++
			}
		}
		v.Set(was)
	})
	if len(texts) != n {
		t.Errorf("%d states have %d texts", n, len(texts))
	}
}

// 7.5: unlike states, and the first like each.
func TestDistinct(t *testing.T) {
	start, _ := state.Start(busy(), 9)
	zero, a, b := api.State{}, start, crowd()
	odd := crowd()
	odd.Count = -5
	last := crowd()
	last.Gos[5].Regs[7] = 1
	cases := []struct {
		l    []api.State
		n    int
		want []int
	}{
		{nil, 0, nil},
		{[]api.State{}, 0, nil},
		{[]api.State{zero}, 1, []int{0}},
		{[]api.State{a, a}, 1, []int{0, 0}},
		{[]api.State{a, b, a}, 2, []int{0, 1, 0}},
		{[]api.State{b, b, a, b, a}, 2, []int{0, 0, 2, 0, 2}},
		{[]api.State{b, odd, last, odd, last, b, zero}, 4, []int{0, 1, 2, 1, 2, 0, 6}},
	}
	for _, c := range cases {
		before := slices.Clone(c.l)
		n, l := state.Distinct(c.l)
		if n != c.n || !slices.Equal(l, c.want) {
			t.Errorf("%d %v, not %d %v", n, l, c.n, c.want)
		}
		if !slices.Equal(before, c.l) {
			t.Error("Distinct changes its argument")
		}
	}
}

// 7.5: no list is too long; the places are those of the first ones.
func TestDistinctLong(t *testing.T) {
	l := make([]api.State, api.MaxStates+10)
	for i := range l {
		l[i].Vars[i%8] = int64(i % 1000)
	}
	n, places := state.Distinct(l)
	first := map[string]int{}
	for i, s := range l {
		key := fmt.Sprint(s.Vars)
		if _, ok := first[key]; !ok {
			first[key] = i
		}
		if places[i] != first[key] {
			t.Fatalf("%d: %d, not %d", i, places[i], first[key])
		}
	}
	if n != len(first) || len(places) != len(l) {
		t.Errorf("%d, not %d", n, len(first))
	}
}

// R3: programs stay as they are, spare room too.
func TestPrograms(t *testing.T) {
	for _, p := range []api.Prog{busy(), sample.Small(1), sample.Prog(5)} {
		before := prog.Copy(p)
		s, _ := state.Start(p, 50)
		state.Settle(p, s, 0, 50)
		state.Valid(p, s)
		if !prog.Same(p, before) {
			t.Error("a call changes its program")
		}
	}
}
