package linear_test

import (
	"math"
	"slices"
	"testing"

	"scarab/api"
	"scarab/asm"
	"scarab/linear"
)

// kinds are all kinds of things.
var kinds = []int{api.KindRegister, api.KindCounter, api.KindQueue, api.KindStack}

// dos are what may be done to a thing of a kind.
func dos(kind int) []int {
	return map[int][]int{api.KindRegister: {api.DoRead, api.DoWrite}, api.KindCounter: {api.DoRead, api.DoAdd}, api.KindQueue: {api.DoPut, api.DoTake}, api.KindStack: {api.DoPut, api.DoTake}}[kind]
}

// far are numbers that are out of all ranges.
var far = []int{math.MinInt, math.MinInt32, -2, linear.MaxMoment + 1, math.MaxInt32, 1 << 40, math.MaxInt}

// The operations, each of a goroutine, with its begin and its end.
func read(g int, out int64, begin, end int) api.Call {
	return api.Call{Go: g, Do: api.DoRead, Out: out, Begin: begin, End: end}
}

func write(g int, in int64, begin, end int) api.Call {
	return api.Call{Go: g, Do: api.DoWrite, In: in, Begin: begin, End: end}
}

func add(g int, in int64, begin, end int) api.Call {
	return api.Call{Go: g, Do: api.DoAdd, In: in, Begin: begin, End: end}
}

func put(g int, in int64, begin, end int) api.Call {
	return api.Call{Go: g, Do: api.DoPut, In: in, Begin: begin, End: end}
}

func take(g int, out int64, begin, end int) api.Call {
	return api.Call{Go: g, Do: api.DoTake, Out: out, Begin: begin, End: end}
}

// bare is a take that found nothing.
func bare(g, begin, end int) api.Call {
	return api.Call{Go: g, Do: api.DoTake, Empty: true, Begin: begin, End: end}
}

// draws tells numbers below others, each as often, that hang on a seed (xorshift).
func draws(seed uint64) func(n int) int {
	x := (seed + 1) * 0x9E3779B97F4A7C15
	return func(n int) int {
		x ^= x << 13
		x ^= x >> 7
		x ^= x << 17
		return int((x >> 11) % uint64(n))
	}
}

// thing is a thing of a kind as the chapter's words have it.
type thing struct {
	kind int
	vals []int64
}

// newThing is a thing as it is at first.
func newThing(kind int) *thing {
	if kind == api.KindRegister || kind == api.KindCounter {
		return &thing{kind, []int64{0}}
	}
	return &thing{kind: kind}
}

// do does an operation, and tells what that tells.
func (x *thing) do(c api.Call) (int64, bool) {
	switch {
	case c.Do == api.DoRead:
		return x.vals[0], false
	case c.Do == api.DoWrite:
		x.vals = []int64{c.In}
	case c.Do == api.DoAdd:
		x.vals = []int64{x.vals[0] + c.In}
	case c.Do == api.DoPut:
		x.vals = append(x.vals, c.In)
	case len(x.vals) == 0:
		return 0, true
	default:
		at := 0
		if x.kind == api.KindStack {
			at = len(x.vals) - 1
		}
		out := x.vals[at]
		x.vals = slices.Delete(x.vals, at, at+1)
		return out, false
	}
	return 0, false
}

// How a sampled history is: as it was done, with other answers, with the moments of each goroutine moved on.
const (
	plain = iota
	spun
	shifted
)

// history is a right history of n operations of a kind: goroutines begin and end operations that are done at a moment
// between, so that a plain one is linearisable; it stands in any order.
func history(seed uint64, kind, n, how int) []api.Call {
	draw := draws(seed)
	gos, leave := 1+draw(4), draw(3) == 0
	values := []int64{1, 2, 3, 0, -1, math.MinInt64, math.MaxInt64}[:2+draw(6)]
	x := newThing(kind)
	var h []api.Call
	open, told := map[int]int{}, map[int]api.Call{} // by goroutine its operation that did not end; by operation what it tells
	effect := func(i int) {
		if _, was := told[i]; !was {
			out, empty := x.do(h[i])
			told[i] = api.Call{Out: out, Empty: empty}
		}
	}
	for moment := draw(3); len(h) < n || len(open) > 0; moment += 1 + draw(3) {
		g := draw(gos)
		i, is := open[g]
		switch {
		case !is && len(h) < n:
			open[g] = len(h)
			h = append(h, begun(draw, kind, g, moment, values))
		case is && draw(2) == 0:
			effect(i)
		case is && draw(2) == 0:
			effect(i)
			h[i].End, h[i].Out, h[i].Empty = moment, told[i].Out, told[i].Empty
			delete(open, g)
		}
		if len(h) == n && leave && draw(6) == 0 {
			break
		}
	}
	switch how {
	case spun:
		spin(draw, h, values)
	case shifted:
		shift(draw, h)
	}
	for i := range h {
		j := draw(i + 1)
		h[i], h[j] = h[j], h[i]
	}
	return h
}

// begun is an operation of a kind that begins.
func begun(draw func(int) int, kind, g, moment int, values []int64) api.Call {
	c := api.Call{Go: g, Do: dos(kind)[draw(2)], Begin: moment, End: -1}
	if c.Do == api.DoWrite || c.Do == api.DoAdd || c.Do == api.DoPut {
		c.In = values[draw(len(values))]
	}
	return c
}

// shift moves all moments of each goroutine on, by as much for each, and lets operations end soon: the turns stay as they are.
func shift(draw func(int) int, h []api.Call) {
	const wide = 2 * api.MaxGos // no two goroutines come to the same moment
	var by [api.MaxGos]int
	for g := range by {
		by[g] = wide*draw(30) + g
	}
	for i, c := range h {
		h[i].Begin = wide*c.Begin + by[c.Go]
		if c.End != -1 {
			h[i].End = h[i].Begin + api.MaxGos
		}
	}
}

// spin gives some operations that tell something other answers that they may tell.
func spin(draw func(int) int, h []api.Call, values []int64) {
	for i, c := range h {
		if c.End == -1 || c.Do != api.DoRead && c.Do != api.DoTake || draw(3) > 0 {
			continue
		}
		h[i].Out, h[i].Empty = values[draw(len(values))], false
		if c.Do == api.DoTake && draw(4) == 0 {
			h[i].Out, h[i].Empty = 0, true
		}
	}
}

// histories are right histories of all kinds, with how many operations they may have at most.
func histories(n uint64, most int, tell func(kind int, h []api.Call)) {
	for seed := range n {
		for _, kind := range kinds {
			tell(kind, history(4*seed+uint64(kind), kind, int(seed)%(most+1), int(seed/7)%3))
		}
	}
}

// full is a history with as many operations as there may be, of a kind.
func full(kind int) []api.Call {
	var h []api.Call
	for i := range linear.MaxCalls {
		c := api.Call{Go: i % api.MaxGos, Do: dos(kind)[0], Begin: 2 * i, End: 2*i + 1}
		if c.Do == api.DoPut {
			c.In = int64(i)
		}
		h = append(h, c)
	}
	return h
}

// w is an object that is written.
func w(kind, num int) api.Access { return api.Access{Kind: kind, Num: num, Write: true} }

// note is an event that notes.
func note(g int, tag, val int64) api.Event {
	return api.Event{Go: g, Op: api.OpNote, Tag: tag, Val: val, Touches: 2, Touch: [6]api.Access{w(api.ObGo, g), w(api.ObNotes, 0)}}
}

// store is an event that says nothing, with a tag nevertheless.
func store(g int, tag, val int64) api.Event {
	return api.Event{Go: g, Op: api.OpStore, Tag: tag, Val: val, Touches: 2, Touch: [6]api.Access{w(api.ObVar, 0), w(api.ObGo, g)}}
}

// parsed is the program of a text.
func parsed(t *testing.T, text string) api.Prog {
	t.Helper()
	p, e, line := asm.Parse(text)
	if e != api.OK {
		t.Fatalf("%v in line %d of %s", e, line, text)
	}
	return p
}

// spoil makes something else of all members of a list, and of its spare room.
func spoil[T any](l []T, odd T) {
	l = l[:cap(l)]
	for i := range l {
		l[i] = odd
	}
}
