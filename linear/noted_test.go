package linear_test

import (
	"math"
	"slices"
	"testing"

	"scarab/api"
	"scarab/linear"
	"scarab/sample"
)

// noted asks for the history that a trace's notes tell.
func noted(t *testing.T, what string, l []api.Event, want ...api.Call) {
	t.Helper()
	if got, e := linear.Noted(l); !slices.Equal(got, want) || e != api.OK {
		t.Errorf("%s: %v %v, not %v", what, got, e, want)
	}
}

// unnoted asks that Noted tells an error, and nothing else.
func unnoted(t *testing.T, what string, l []api.Event, want api.Errno) {
	t.Helper()
	if got, e := linear.Noted(l); len(got) > 0 || e != want {
		t.Errorf("%s: %v %v, not %v", what, got, e, want)
	}
}

// 26.4: histories that are written out.
func TestNoted(t *testing.T) {
	noted(t, "nothing", nil)
	noted(t, "the chapter's tags", []api.Event{note(0, 41, 7), note(0, 42, 9), note(0, 51, 1), note(0, 53, 1)}, put(0, 7, 0, 2), bare(0, 4, 6))
	noted(t, "a read", []api.Event{note(3, 11, 5), note(3, 12, -6)}, read(3, -6, 0, 2))
	noted(t, "a write", []api.Event{note(3, 21, 5), note(3, 22, 6)}, write(3, 5, 0, 2))
	noted(t, "an add", []api.Event{note(3, 31, math.MinInt64), note(3, 32, 6)}, add(3, math.MinInt64, 0, 2))
	noted(t, "a put", []api.Event{note(3, 41, 5), note(3, 42, 6)}, put(3, 5, 0, 2))
	noted(t, "a take", []api.Event{note(3, 51, 5), note(3, 52, math.MaxInt64)}, take(3, math.MaxInt64, 0, 2))
	noted(t, "a take of 0", []api.Event{note(3, 51, 5), note(3, 52, 0)}, take(3, 0, 0, 2))
	noted(t, "pending ones", []api.Event{note(0, 11, 5), note(1, 21, 5), note(2, 31, 6), note(3, 41, 7), note(4, 51, 8)},
		read(0, 0, 0, -1), write(1, 5, 2, -1), add(2, 6, 4, -1), put(3, 7, 6, -1), take(4, 0, 8, -1))
	noted(t, "within each other", []api.Event{note(2, 21, 5), note(1, 11, 0), note(2, 22, 0), note(1, 12, 4), note(2, 11, 0)},
		write(2, 5, 0, 4), read(1, 4, 2, 6), read(2, 0, 8, -1))
	noted(t, "in the order of their begins", []api.Event{note(5, 21, 5), note(0, 21, 6), note(0, 22, 0), note(5, 22, 0)}, write(5, 5, 0, 6), write(0, 6, 2, 4))
	noted(t, "twice the place among all events", []api.Event{store(0, 0, 0), note(0, 41, 7), store(1, 0, 0), store(0, 0, 0), note(0, 42, 0)}, put(0, 7, 2, 8))
	noted(t, "other operations with such tags", []api.Event{store(0, 12, 0), note(0, 41, 7), store(0, 42, 1), store(0, 53, 0), note(0, 42, 0)}, put(0, 7, 2, 8))
	for _, tag := range []int64{0, 1, 2, 3, 9, 10, 13, 14, 19, 20, 23, 33, 43, 50, 54, 55, 59, 60, 61, 62, 63, 71, 101, 102, -11, -12, -51, -53, math.MinInt64, math.MaxInt64, 1<<32 + 11} {
		noted(t, "other tags", []api.Event{note(0, tag, 4), note(0, 31, 7), note(0, tag, 5), note(0, 32, 0), note(0, tag, 6)}, add(0, 7, 2, 6))
	}
	long := slices.Repeat([]api.Event{store(1, 0, 0)}, api.MaxSteps)
	long[254], long[255] = note(5, 11, 0), note(5, 12, 3)
	noted(t, "at the end", long, read(5, 3, 508, 510))
}

// 26.4: notes that may not be.
func TestNotNoted(t *testing.T) {
	for d := int64(1); d <= 5; d++ {
		begin, end := note(1, 10*d+1, 4), note(1, 10*d+2, 4)
		unnoted(t, "it ends nothing", []api.Event{end}, api.ErrHist)
		unnoted(t, "it ends twice", []api.Event{begin, end, end}, api.ErrHist)
		unnoted(t, "another goroutine's", []api.Event{begin, note(2, 10*d+2, 4)}, api.ErrHist)
		for other := int64(1); other <= 5; other++ {
			unnoted(t, "it begins twice", []api.Event{begin, note(1, 10*other+1, 0)}, api.ErrHist)
			want := api.ErrHist
			if other == d {
				want = api.OK
			}
			if _, e := linear.Noted([]api.Event{begin, note(1, 10*other+2, 0)}); e != want {
				t.Errorf("%d ends with %d: %v", d, other, e)
			}
		}
		if d != api.DoTake {
			unnoted(t, "53 ends another one", []api.Event{begin, note(1, 53, 0)}, api.ErrHist)
		}
	}
	unnoted(t, "53 ends nothing", []api.Event{note(1, 53, 0)}, api.ErrHist)
	unnoted(t, "53 ends twice", []api.Event{note(1, 51, 0), note(1, 53, 0), note(1, 53, 0)}, api.ErrHist)
	unnoted(t, "53 behind 52", []api.Event{note(1, 51, 0), note(1, 52, 0), note(1, 53, 0)}, api.ErrHist)
	var most []api.Event
	for range linear.MaxCalls {
		most = append(most, note(2, 41, 1), note(2, 42, 1))
	}
	if h, e := linear.Noted(most); len(h) != linear.MaxCalls || e != api.OK {
		t.Errorf("the most: %v %v", h, e)
	}
	unnoted(t, "one more", append(slices.Clone(most), note(2, 41, 1)), api.ErrHist)
	unnoted(t, "one more, of another goroutine", append(slices.Clone(most), note(3, 11, 1)), api.ErrHist)
	pend := []api.Event{note(0, 11, 0), note(1, 11, 0)}
	unnoted(t, "one more, with pending ones", slices.Concat(pend, most[:14]), api.ErrHist)
	if h, e := linear.Noted(slices.Concat(pend, most[:12])); len(h) != linear.MaxCalls || e != api.OK {
		t.Errorf("the most, with pending ones: %v %v", h, e)
	}
}

// 26.4, R1: events that are no trace are told first.
func TestNotedWrong(t *testing.T) {
	bad := note(1, 42, 0)
	unnoted(t, "one more", slices.Repeat([]api.Event{bad}, api.MaxSteps+1), api.ErrLong)
	unnoted(t, "far more", make([]api.Event, 1<<14), api.ErrLong)
	unnoted(t, "nothing touched", []api.Event{bad, {}}, api.ErrTrace)
	unnoted(t, "no goroutine", []api.Event{bad, note(6, 41, 0)}, api.ErrTrace)
	unnoted(t, "no goroutine below", []api.Event{note(-1, 41, 0)}, api.ErrTrace)
	other := note(1, 41, 0)
	other.Go = 2
	unnoted(t, "another goroutine's", []api.Event{other}, api.ErrTrace)
	many := make([]api.Event, 1)
	many[0] = note(0, 41, 0)
	many[0].Touches = 7
	unnoted(t, "too much touched", many, api.ErrTrace)
}

// historyOf is what notes tell, by the words of the chapter, and whether they may be: of each begin, the first note of its goroutine that speaks of an
// operation and comes behind it must end it.
func historyOf(l []api.Event) ([]api.Call, bool) {
	var h []api.Call
	speaks := func(x api.Event) bool {
		return x.Op == api.OpNote && x.Tag >= 11 && x.Tag <= 53 && (x.Tag%10 == 1 || x.Tag%10 == 2 || x.Tag == 53)
	}
	ended := map[int]int{} // the places of notes that end something
	for i, x := range l {
		if !speaks(x) {
			continue
		}
		if x.Tag%10 != 1 {
			if ended[i] == 0 {
				return nil, false
			}
			continue
		}
		c := api.Call{Go: x.Go, Do: int(x.Tag / 10), Begin: 2 * i, End: -1}
		if c.Do != api.DoRead && c.Do != api.DoTake {
			c.In = x.Val
		}
		for j := i + 1; j < len(l) && c.End == -1; j++ {
			y := l[j]
			if y.Go != x.Go || !speaks(y) {
				continue
			}
			if y.Tag != x.Tag+1 && !(x.Tag == 51 && y.Tag == 53) {
				return nil, false
			}
			ended[j]++
			c.End = 2 * j
			c.Empty = y.Tag == 53
			if y.Tag == 12 || y.Tag == 52 {
				c.Out = y.Val
			}
		}
		h = append(h, c)
	}
	return h, len(h) <= 8
}

// notes are n events most of which are notes: of each goroutine most often as they may be.
func notes(seed uint64, n int) []api.Event {
	draw := draws(seed)
	gos, dos, odd := 1+draw(4), 1+draw(5), 4+draw(80)
	var open [api.MaxGos]int64 // the tag with which a goroutine's operation began, 0 if it has none
	var l []api.Event
	for range n {
		g, val := draw(gos), int64(draw(5)-2)
		tag, then := 10*int64(1+draw(dos))+1, int64(0)
		switch {
		case open[g] == 0:
			then = tag
		case open[g] == 51 && draw(2) == 0:
			tag = 53
		default:
			tag = open[g] + 1
		}
		switch {
		case draw(odd) == 0:
			l = append(l, note(g, int64(9+draw(46)), val))
		case draw(4) > 0:
			l = append(l, store(g, tag, val))
		default:
			l = append(l, note(g, tag, val))
			open[g] = then
		}
	}
	return l
}

// 26.4, 26.7: what Noted tells of sampled traces is what the words say; it is right, of each kind whose Dos are all its own.
func TestNotedWords(t *testing.T) {
	var told, right [2]int
	ask := func(l []api.Event) {
		want, ok := historyOf(l)
		e := api.OK
		if !ok {
			want, e = nil, api.ErrHist
		}
		h, got := linear.Noted(l)
		if !slices.Equal(h, want) || got != e {
			t.Errorf("%v: %v %v, not %v %v", l, h, got, want, e)
		}
		if !ok {
			told[0]++
			return
		}
		told[1]++
		for _, kind := range kinds {
			own := !slices.ContainsFunc(h, func(c api.Call) bool { return !slices.Contains(dos(kind), c.Do) })
			if is := linear.Check(kind, h) == api.OK; is != own {
				t.Errorf("%v: right of kind %d: %v, not %v", h, kind, is, own)
			}
			if own && len(h) > 0 {
				right[1]++
			} else {
				right[0]++
			}
		}
	}
	for seed := range uint64(1500) {
		ask(notes(seed, int(seed%60)))
		ask(sample.Trace(seed, int(seed%9)))
	}
	if min(told[0], told[1]) < 300 || min(right[0], right[1]) < 300 {
		t.Errorf("told %v, right %v", told, right)
	}
}

// R3, R6: events stay as they are, spare room too; the answer is new memory; the same call tells the same.
func TestNotedMemory(t *testing.T) {
	odd := api.Event{Go: -7}
	for seed := range uint64(60) {
		x := notes(seed, 20)
		l := append(slices.Clone(x), odd, odd)[:len(x)]
		h, _ := linear.Noted(l)
		want := slices.Clone(h)
		spoil(h, api.Call{Go: -7})
		if h, _ = linear.Noted(l); !slices.Equal(h, want) {
			t.Error("an answer is kept, or not told the same twice")
		}
		if !slices.Equal(l, x) || l[:len(l)+2][len(l)] != odd || l[:len(l)+2][len(l)+1] != odd {
			t.Error("Noted changes its events")
		}
	}
}
