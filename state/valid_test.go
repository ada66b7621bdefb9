package state_test

import (
	"math"
	"reflect"
	"testing"

	"scarab/api"
	"scarab/prog"
	"scarab/sample"
	"scarab/state"
)

// right tells by the chapter's six points whether a state is one of a program that is right.
func right(p api.Prog, s api.State) bool {
	if e, _ := prog.Check(p); e != api.OK {
		return false
	}
	for _, point := range []func(api.Prog, api.State) bool{point1, point2, point3, point4, point5, point6} {
		if !point(p, s) {
			return false
		}
	}
	return true
}

func point1(p api.Prog, s api.State) bool {
	if s.Count < 1 || s.Count > 6 {
		return false
	}
	var kept api.State
	kept.Count = s.Count
	copy(kept.Gos[:s.Count], s.Gos[:])
	copy(kept.Vars[:len(p.Vars)], s.Vars[:])
	copy(kept.Owner[:p.Locks], s.Owner[:])
	copy(kept.Chans[:len(p.Chans)], s.Chans[:])
	return kept == s
}

func point2(p api.Prog, s api.State) bool {
	for _, it := range s.Gos[:s.Count] {
		if it.Status < 1 || it.Status > 5 || it.Func < 0 || it.Func > len(p.Funcs)-1 {
			return false
		}
		fn := p.Funcs[it.Func]
		if it.PC < 0 || it.PC > len(fn.Code)-1 {
			return false
		}
		ended := it.Status == api.GoDone || it.Status == api.GoFailed
		for r, x := range it.Regs {
			if x != 0 && (r >= fn.Regs || ended) {
				return false
			}
		}
		if it.Why != 0 && it.Status != api.GoFailed {
			return false
		}
	}
	return true
}

func point3(p api.Prog, s api.State) bool {
	fails := map[int][]api.Op{
		1: {api.OpAssert}, 2: {api.OpDiv, api.OpRem}, 3: {api.OpShl, api.OpShr, api.OpUshr}, 4: {api.OpSend, api.OpSelect},
		5: {api.OpClose}, 6: {api.OpUnlock}, 7: {api.OpJoin}, 8: {api.OpSpawn},
	}
	for _, it := range s.Gos[:s.Count] {
		op := p.Funcs[it.Func].Code[it.PC].Op
		fits := true
		switch it.Status {
		case api.GoDone:
			fits = op == api.OpEnd
		case api.GoSpun:
			fits = op < api.OpLoad
		case api.GoFailed:
			fits = false
			for _, o := range fails[it.Why] {
				fits = fits || o == op
			}
		}
		if !fits {
			return false
		}
	}
	return true
}

func point4(p api.Prog, s api.State) bool {
	for _, o := range s.Owner {
		if o < 0 || o > s.Count {
			return false
		}
	}
	return true
}

func point5(p api.Prog, s api.State) bool {
	for n, room := range p.Chans {
		c := s.Chans[n]
		if c.Len < 0 || c.Len > room {
			return false
		}
		for i, x := range c.Buf {
			if i >= c.Len && x != 0 {
				return false
			}
		}
		none, there, taken, lost := c.Offer == 0, c.Offer == 1, c.Offer == 2, c.Offer == 3
		switch {
		case !none && !there && !taken && !lost, room != 0 && !none:
			return false
		case none && (c.From != 0 || c.Val != 0), (taken || lost) && c.Val != 0, lost && !c.Closed, there && c.Closed:
			return false
		}
	}
	return true
}

func point6(p api.Prog, s api.State) bool {
	var of [6]int
	for n, c := range s.Chans {
		if c.Offer == api.OfferNone {
			continue
		}
		if c.From < 0 || c.From >= s.Count {
			return false
		}
		it := s.Gos[c.From]
		if in := p.Funcs[it.Func].Code[it.PC]; it.Status != api.GoWait || in.Op != api.OpSend || in.A != n {
			return false
		}
		of[c.From]++
	}
	for g, it := range s.Gos {
		if it.Status == api.GoWait && of[g] != 1 {
			return false
		}
	}
	return true
}

// 7.1: a state is one of a right program only.
func TestValidPrograms(t *testing.T) {
	start, _ := state.Start(busy(), 9)
	for _, p := range wrongs() {
		valid(t, "of no program", p, start, false)
		valid(t, "nothing", p, api.State{}, false)
	}
	valid(t, "start", busy(), start, true)
	valid(t, "crowd", busy(), crowd(), true)
	valid(t, "nothing", busy(), api.State{}, false)
}

// change is something done to crowd, and whether it is a state of busy behind that.
type change struct {
	what string
	do   func(s *api.State)
	want bool
}

func changed(t *testing.T, l []change) {
	t.Helper()
	for _, c := range l {
		s := crowd()
		c.do(&s)
		valid(t, c.what, busy(), s, c.want)
	}
}

// 7.1, the first point: how many there are, and nothing beyond.
func TestValidBeyond(t *testing.T) {
	l := []change{
		{"the last variable", func(s *api.State) { s.Vars[2] = 9 }, true},
		{"a variable too many", func(s *api.State) { s.Vars[3] = 1 }, false},
		{"a variable far too many", func(s *api.State) { s.Vars[7] = -1 }, false},
		{"a lock too many", func(s *api.State) { s.Owner[2] = 1 }, false},
		{"a lock far too many", func(s *api.State) { s.Owner[3] = 1 }, false},
		{"a channel too many", func(s *api.State) { s.Chans[3].Closed = true }, false},
		{"a value on no channel", func(s *api.State) { s.Chans[3].Buf[0] = 1 }, false},
		{"one less, who waited", func(s *api.State) { s.Count = 5 }, false},
		{"one less, forgotten", func(s *api.State) { s.Count, s.Gos[5], s.Chans[2], s.Owner[0] = 5, api.Go{}, api.Chan{}, 5 }, true},
		{"one less, a register left", func(s *api.State) {
			s.Count, s.Gos[5], s.Chans[2], s.Owner[0] = 5, api.Go{Regs: [8]int64{7: 1}}, api.Chan{}, 0
		}, false},
	}
	for _, n := range append([]int{0, 7}, far...) {
		l = append(l, change{"Count", func(s *api.State) { s.Count = n }, false})
	}
	changed(t, l)
}

// 7.1, the second point: statuses, functions, places, registers.
func TestValidGoroutines(t *testing.T) {
	l := []change{
		{"the last place", func(s *api.State) { s.Gos[0].PC = atEnd }, true},
		{"a place too many", func(s *api.State) { s.Gos[0].PC = places }, false},
		{"the other's last place", func(s *api.State) { s.Gos[0] = api.Go{Status: api.GoLive, Func: 1, PC: 2} }, true},
		{"a place that the other has not", func(s *api.State) { s.Gos[0] = api.Go{Status: api.GoLive, Func: 1, PC: 3} }, false},
		{"a function too many", func(s *api.State) { s.Gos[0] = api.Go{Status: api.GoLive, Func: 2} }, false},
		{"none", func(s *api.State) { s.Gos[0] = api.Go{} }, false},
		{"no status", func(s *api.State) { s.Gos[0].Status = 6 }, false},
		{"a register too many", func(s *api.State) { s.Gos[0].Regs[3] = 1 }, false},
		{"a register far too many", func(s *api.State) { s.Gos[1].Regs[7] = 1 }, false},
		{"a register that the other has not", func(s *api.State) { s.Gos[5].Regs[1] = 1 }, false},
		{"a spun one's register too many", func(s *api.State) { s.Gos[4].Regs[3] = 1 }, false},
		{"a done one's register", func(s *api.State) { s.Gos[2].Regs[0] = 1 }, false},
		{"a failed one's register", func(s *api.State) { s.Gos[3].Regs[2] = 1 }, false},
	}
	for _, n := range far {
		l = append(l, change{"PC", func(s *api.State) { s.Gos[0].PC = n }, false},
			change{"Func", func(s *api.State) { s.Gos[0].Func = n }, false},
			change{"Status", func(s *api.State) { s.Gos[0].Status = n }, false},
			change{"Why", func(s *api.State) { s.Gos[3].Why = n }, false})
	}
	for g := range 6 {
		for why := range 10 {
			l = append(l, change{"Why", func(s *api.State) { s.Gos[g].Why = why }, why == 0 && g != 3 || g == 3 && why == api.WhyJoin})
		}
	}
	changed(t, l)
}

// 7.1, the second and third points: each place, as each status, for each reason.
func TestValidPlaces(t *testing.T) {
	fails := map[int]int{
		atAssert: 1, atDiv: 2, atRem: 2, atShl: 3, atShr: 3, atUshr: 3, atSend0: 4, atSend1: 4, atSend2: 4, atSelect: 4,
		atClose: 5, atUnlock: 6, atJoin: 7, atSpawn: 8,
	}
	local := []int{atConst, atAssert, atDiv, atRem, atShl, atShr, atUshr, atJump, atEnd}
	var l []change
	for pc := range places {
		spins := false
		for _, at := range local {
			spins = spins || at == pc
		}
		put := func(status, why int, want bool) {
			l = append(l, change{"a goroutine at its place", func(s *api.State) { s.Gos[0] = api.Go{Status: status, PC: pc, Why: why} }, want})
		}
		put(api.GoNone, 0, false)
		put(api.GoLive, 0, true)
		put(api.GoWait, 0, false)
		put(api.GoDone, 0, pc == atEnd)
		put(api.GoSpun, 0, spins)
		for why := range 11 {
			put(api.GoFailed, why-1, why > 0 && fails[pc] == why-1 && why-1 > 0)
		}
	}
	changed(t, l)
}

// 7.1, the fourth point: who holds locks.
func TestValidOwners(t *testing.T) {
	var l []change
	for k := range 7 {
		l = append(l, change{"one that is there", func(s *api.State) { s.Owner[1] = k }, true})
	}
	for _, k := range append([]int{7}, far...) {
		l = append(l, change{"one that is not there", func(s *api.State) { s.Owner[1] = k }, false})
	}
	changed(t, l)
	s, _ := state.Start(busy(), 9)
	s.Owner[0] = 1
	valid(t, "main holds it", busy(), s, true)
	s.Owner[0] = 2
	valid(t, "nobody is there to hold it", busy(), s, false)
}

// 7.1, the fifth point: what is on a channel.
func TestValidChannels(t *testing.T) {
	l := []change{
		{"open", func(s *api.State) { s.Chans[1].Closed = false }, true},
		{"full", func(s *api.State) { s.Chans[1].Buf[1] = 3 }, true},
		{"more than full", func(s *api.State) { s.Chans[1].Len = 3 }, false},
		{"a value behind", func(s *api.State) { s.Chans[1].Buf[2] = 3 }, false},
		{"a value at the end", func(s *api.State) { s.Chans[1].Buf[3] = 3 }, false},
		{"none", func(s *api.State) { s.Chans[1] = api.Chan{} }, true},
		{"fewer, and a value left", func(s *api.State) { s.Chans[1].Len = 0 }, false},
		{"fewer", func(s *api.State) { s.Chans[1].Len = 1 }, true},
		{"one buffered on an unbuffered one", func(s *api.State) { s.Chans[0].Len = 1 }, false},
		{"a value on an unbuffered one", func(s *api.State) { s.Chans[0].Buf[0] = 1 }, false},
		{"a value of no offer", func(s *api.State) { s.Chans[1].Val = 1 }, false},
		{"who made no offer", func(s *api.State) { s.Chans[1].From = 1 }, false},
		{"an offer on a buffered one", func(s *api.State) {
			s.Gos[1].PC, s.Chans[0], s.Chans[1] = atSend1, api.Chan{}, api.Chan{Offer: 1, From: 1}
		}, false},
		{"an offer on a closed one", func(s *api.State) { s.Chans[0].Closed = true }, false},
		{"lost on an open one", func(s *api.State) { s.Chans[2].Closed = false }, false},
		{"lost, with a value", func(s *api.State) { s.Chans[2].Val = 1 }, false},
		{"taken", func(s *api.State) { s.Chans[0] = api.Chan{Offer: api.OfferTaken, From: 1} }, true},
		{"taken on a closed one", func(s *api.State) { s.Chans[0] = api.Chan{Offer: api.OfferTaken, From: 1, Closed: true} }, true},
		{"taken, with a value", func(s *api.State) { s.Chans[0].Offer = api.OfferTaken }, false},
		{"no kind of offer", func(s *api.State) { s.Chans[0].Offer = 4 }, false},
		{"an offer of 0", func(s *api.State) { s.Chans[0].Val = 0 }, true},
	}
	for _, n := range far {
		l = append(l, change{"Len", func(s *api.State) { s.Chans[1].Len = n }, false},
			change{"Offer", func(s *api.State) { s.Chans[0].Offer = n }, false},
			change{"From", func(s *api.State) { s.Chans[0].From = n }, false})
	}
	changed(t, l)
}

// 7.1, the sixth point: offers and those who wait.
func TestValidOffers(t *testing.T) {
	live := api.Go{Status: api.GoLive, PC: atSend0}
	changed(t, []change{
		{"of one that does not wait", func(s *api.State) { s.Gos[1].Status = api.GoLive }, false},
		{"of another one that waits", func(s *api.State) { s.Chans[0].From = 5 }, false},
		{"of a live one at such a send", func(s *api.State) { s.Gos[0], s.Chans[0].From = live, 0 }, false},
		{"of one that is not there", func(s *api.State) { s.Chans[0].From = 6 }, false},
		{"of one at another send", func(s *api.State) { s.Gos[1].PC = atSend2 }, false},
		{"of one at no send", func(s *api.State) { s.Gos[1].PC = atClose }, false},
		{"of one at a receive", func(s *api.State) { s.Gos[1].PC = atRecv }, false},
		{"of nobody", func(s *api.State) { s.Chans[0] = api.Chan{} }, false},
		{"two wait for one", func(s *api.State) { s.Gos[0] = s.Gos[1] }, false},
		{"main waits, other channels have no offer", func(s *api.State) {
			s.Gos[0], s.Gos[1] = s.Gos[1], s.Gos[0]
			s.Chans[0].From = 0
		}, true},
		{"one is From of two", func(s *api.State) { s.Gos[5], s.Chans[2].From = api.Go{Status: api.GoDone, PC: atEnd}, 1 }, false},
	})
}

// 7.1: of states in which each field in turn is any number, Valid tells what the chapter's points tell.
func TestValidAnyField(t *testing.T) {
	type thing struct {
		p api.Prog
		s api.State
	}
	things := []thing{{busy(), crowd()}}
	for seed := range uint64(60) {
		p := sample.Small(seed)
		things = append(things, thing{p, sample.State(p, seed)}, thing{sample.Prog(seed), sample.State(sample.Prog(seed), seed)})
	}
	told := [2]int{}
	for _, x := range things {
		s := x.s
		valid(t, "sample", x.p, s, true)
		leaves(&s, func(v reflect.Value) {
			if v.Kind() == reflect.Bool {
				v.SetBool(!v.Bool())
				valid(t, "other", x.p, s, right(x.p, s))
				v.SetBool(!v.Bool())
				return
			}
			was := v.Int()
			for _, n := range []int64{0, 1, 2, 3, 4, 5, 6, 7, -1, math.MaxInt64, math.MinInt64} {
				v.SetInt(n)
				want := right(x.p, s)
				told[map[bool]int{true: 1}[want]]++
				valid(t, "other", x.p, s, want)
			}
			v.SetInt(was)
		})
	}
	if told[0] < 1000 || told[1] < 1000 {
		t.Errorf("asked of %d states and %d others", told[1], told[0])
	}
}
