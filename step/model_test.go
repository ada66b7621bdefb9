package step_test

import (
	"maps"
	"slices"

	"scarab/api"
	"scarab/state"
)

// model is a goroutine of a state, of which the chapter's words are told one by one, without the package that is
// tested.
type model struct {
	p     api.Prog
	s     api.State
	g     int
	me    api.Go
	in    api.Instr
	waits bool
}

// modelOf is the model of a goroutine, and whether that is live.
func modelOf(p api.Prog, s api.State, g int) (model, bool) {
	if g < 0 || g >= s.Count || s.Gos[g].Status != api.GoLive && s.Gos[g].Status != api.GoWait {
		return model{}, false
	}
	me := s.Gos[g]
	return model{p, s, g, me, p.Funcs[me.Func].Code[me.PC], me.Status == api.GoWait}, true
}

func (m model) op() api.Op {
	if m.waits {
		return api.OpTaken
	}
	return m.in.Op
}

func (m model) canSend(n int) bool {
	c := m.s.Chans[n]
	if m.p.Chans[n] == 0 {
		return c.Closed || c.Offer == api.OfferNone
	}
	return c.Closed || c.Len < m.p.Chans[n]
}

func (m model) canRecv(n int) bool {
	c := m.s.Chans[n]
	return c.Len != 0 || c.Closed || c.Offer == api.OfferThere
}

// target is the goroutine of a join, -1 if there is none.
func (m model) target() int {
	for k := range m.s.Count {
		if m.me.Regs[m.in.A] == int64(k) {
			return k
		}
	}
	return -1
}

func (m model) alts() []int {
	if m.op() != api.OpSelect {
		if m.single() {
			return []int{0}
		}
		return nil
	}
	var l []int
	choice := m.p.Funcs[m.me.Func].Selects[m.in.A]
	for n, c := range choice.Cases {
		if c.Send && m.canSend(c.Chan) || !c.Send && m.canRecv(c.Chan) {
			l = append(l, n)
		}
	}
	if len(l) == 0 && choice.Else != -1 {
		l = []int{len(choice.Cases)}
	}
	return l
}

// single tells whether what is no select is ready.
func (m model) single() bool {
	in := m.in
	switch m.op() {
	case api.OpTaken:
		return m.s.Chans[in.A].Offer >= api.OfferTaken
	case api.OpAwait:
		return m.s.Vars[in.A] == m.me.Regs[in.B]
	case api.OpLock:
		return m.s.Owner[in.A] == 0
	case api.OpSend:
		return m.canSend(in.A)
	case api.OpRecv:
		return m.canRecv(in.B)
	case api.OpJoin:
		k := m.target()
		return k == -1 || k == m.g || m.s.Gos[k].Status >= api.GoDone
	}
	return m.op() >= api.OpLoad
}

func (m model) touch() []api.Access {
	in := m.in
	set := map[[2]int]bool{{api.ObGo, m.g}: true}
	put := func(kind, num int, write bool) { set[[2]int{kind, num}] = set[[2]int{kind, num}] || write }
	switch m.op() {
	case api.OpLoad:
		put(1, in.B, false)
	case api.OpAwait:
		put(1, in.A, false)
	case api.OpStore:
		put(1, in.A, true)
	case api.OpBump, api.OpCas:
		put(1, in.B, true)
	case api.OpLock, api.OpUnlock:
		put(2, in.A, true)
	case api.OpTry:
		put(2, in.B, true)
	case api.OpSend, api.OpClose, api.OpTaken:
		put(3, in.A, true)
	case api.OpRecv:
		put(3, in.B, true)
	case api.OpSelect:
		for _, c := range m.p.Funcs[m.me.Func].Selects[in.A].Cases {
			put(3, c.Chan, true)
		}
	case api.OpSpawn:
		put(4, 0, true)
		if m.s.Count < 6 {
			put(5, m.s.Count, true)
		}
	case api.OpJoin:
		put(4, 0, false)
		if k := m.target(); k != -1 {
			put(5, k, false)
		}
	case api.OpNote:
		put(6, 0, true)
	}
	var l []api.Access
	for _, k := range slices.SortedFunc(maps.Keys(set), func(a, b [2]int) int { return slices.Compare(a[:], b[:]) }) {
		l = append(l, api.Access{Kind: k[0], Num: k[1], Write: set[k]})
	}
	return l
}

func (m model) blame() []int {
	if len(m.alts()) > 0 {
		return nil
	}
	switch m.op() {
	case api.OpLock:
		return []int{m.s.Owner[m.in.A] - 1}
	case api.OpJoin:
		return []int{m.target()}
	case api.OpSend:
		if m.p.Chans[m.in.A] == 0 {
			return []int{m.s.Chans[m.in.A].From}
		}
	}
	return nil
}

// outcome is what an instruction does: why it fails, whether it stays and waits, where it goes on, the value it moved.
type outcome struct {
	why   int
	stays bool
	next  int
	val   int64
}

func (m *model) give(r int, x int64) {
	if r >= 0 {
		m.me.Regs[r] = x
	}
}

// sent is what a send does, received what a receive does.
func (m *model) sent(n int, x int64, next int) outcome {
	c := &m.s.Chans[n]
	switch {
	case c.Closed:
		return outcome{why: api.WhyClosed}
	case m.p.Chans[n] == 0:
		*c = api.Chan{Offer: api.OfferThere, From: m.g, Val: x}
		return outcome{stays: true, val: x}
	}
	c.Buf[c.Len] = x
	c.Len++
	return outcome{next: next, val: x}
}

func (m *model) received(n int) (x, some int64) {
	c := &m.s.Chans[n]
	switch {
	case c.Len > 0:
		x = c.Buf[0]
		c.Buf = [4]int64{c.Buf[1], c.Buf[2], c.Buf[3], 0}
		c.Len--
		return x, 1
	case c.Offer == api.OfferThere:
		x = c.Val
		c.Val, c.Offer = 0, api.OfferTaken
		return x, 1
	}
	return 0, 0
}

// act does what a step does ahead of the local instructions.
func (m *model) act(alt int) outcome {
	in, next := m.in, m.me.PC+1
	was := m.me.Regs
	one := func(yes bool) int64 {
		if yes {
			return 1
		}
		return 0
	}
	done := func(val int64) outcome { return outcome{next: next, val: val} }
	switch m.op() {
	case api.OpLoad:
		m.give(in.A, m.s.Vars[in.B])
		return done(m.s.Vars[in.B])
	case api.OpStore:
		m.s.Vars[in.A] = was[in.B]
		return done(was[in.B])
	case api.OpBump:
		m.give(in.A, m.s.Vars[in.B])
		m.s.Vars[in.B] += was[in.C]
		return done(was[in.C])
	case api.OpCas:
		yes := m.s.Vars[in.B] == was[in.C]
		if yes {
			m.s.Vars[in.B] = was[in.N]
		}
		m.give(in.A, one(yes))
		return done(one(yes))
	case api.OpAwait:
		return done(was[in.B])
	case api.OpLock:
		m.s.Owner[in.A] = m.g + 1
	case api.OpUnlock:
		if m.s.Owner[in.A] != m.g+1 {
			return outcome{why: api.WhyUnlock}
		}
		m.s.Owner[in.A] = 0
	case api.OpTry:
		free := m.s.Owner[in.B] == 0
		if free {
			m.s.Owner[in.B] = m.g + 1
		}
		m.give(in.A, one(free))
		return done(one(free))
	case api.OpSend:
		return m.sent(in.A, was[in.B], next)
	case api.OpRecv:
		x, some := m.received(in.B)
		m.give(in.A, x)
		m.give(in.C, some)
		return done(x)
	default:
		return m.rare(alt, next)
	}
	return done(0)
}

// rare is what the other operations do.
func (m *model) rare(alt, next int) outcome {
	in, was := m.in, m.me.Regs
	switch m.op() {
	case api.OpTaken:
		c := &m.s.Chans[in.A]
		lost := c.Offer == api.OfferLost
		c.Offer, c.From, c.Val = 0, 0, 0
		if lost {
			return outcome{why: api.WhyClosed}
		}
	case api.OpClose:
		c := &m.s.Chans[in.A]
		if c.Closed {
			return outcome{why: api.WhyTwice}
		}
		if c.Closed = true; c.Offer == api.OfferThere {
			c.Offer, c.Val = api.OfferLost, 0
		}
	case api.OpSelect:
		choice := m.p.Funcs[m.me.Func].Selects[in.A]
		if alt == len(choice.Cases) {
			return outcome{next: choice.Else}
		}
		c := choice.Cases[alt]
		if c.Send {
			return m.sent(c.Chan, was[c.Reg], c.To)
		}
		x, _ := m.received(c.Chan)
		m.give(c.Reg, x)
		return outcome{next: c.To, val: x}
	case api.OpSpawn:
		k := m.s.Count
		if k == 6 {
			return outcome{why: api.WhyGos}
		}
		m.s.Gos[k] = api.Go{Status: api.GoLive, Func: in.B}
		for r := range m.p.Funcs[in.B].Params {
			m.s.Gos[k].Regs[r] = was[in.C+r]
		}
		m.s.Count = k + 1
		m.give(in.A, int64(k))
		return outcome{next: next, val: int64(k)}
	case api.OpJoin:
		if k := m.target(); k == -1 || k == m.g {
			return outcome{why: api.WhyJoin}
		}
		return outcome{next: next, val: was[in.A]}
	case api.OpNote:
		return outcome{next: next, val: was[in.A]}
	}
	return outcome{next: next}
}

// do is the state behind a step, and its event.
func (m model) do(alt, fuel int) (api.State, api.Event) {
	x := api.Event{Go: m.g, Func: m.me.Func, PC: m.me.PC, Op: m.op(), Alt: alt}
	for _, a := range m.touch() {
		x.Touch[x.Touches] = a
		x.Touches++
	}
	if m.op() == api.OpNote {
		x.Tag = m.in.N
	}
	o := m.act(alt)
	x.Val = o.val
	count := m.s.Count
	switch {
	case o.why != 0:
		m.s.Gos[m.g] = api.Go{Status: api.GoFailed, Func: m.me.Func, PC: m.me.PC, Why: o.why}
		return m.s, x
	case o.stays:
		m.s.Gos[m.g].Status = api.GoWait
		return m.s, x
	}
	m.me.Status, m.me.PC = api.GoLive, o.next
	m.s.Gos[m.g] = m.me
	m.s, _ = state.Settle(m.p, m.s, m.g, fuel)
	if m.op() == api.OpSpawn {
		m.s, _ = state.Settle(m.p, m.s, count-1, fuel)
	}
	return m.s, x
}
