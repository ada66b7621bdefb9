package shrink_test

import (
	"slices"
	"testing"

	"scarab/api"
	"scarab/sample"
	"scarab/shrink"
)

// moved asks for all moves of picks.
func moved(t *testing.T, what string, picks []api.Pick, want ...[]api.Pick) {
	t.Helper()
	l, e := shrink.Moves(picks)
	if e != api.OK || !slices.EqualFunc(l, want, slices.Equal) {
		t.Errorf("%s: %v %v, not %v", what, l, e, want)
	}
}

// 24.1: the chapter's example.
func TestMovesExample(t *testing.T) {
	moved(t, "0 1 0", gos(0, 1, 0), nil, gos(0), gos(0, 1), gos(1), gos(0, 0), gos(0, 1), gos(1, 0, 0), gos(0, 0, 1))
}

// 24.1: beginnings, then without a goroutine from a place on, then blocks changed about.
func TestMoves(t *testing.T) {
	moved(t, "nothing", nil)
	moved(t, "one", gos(3), nil, nil)
	moved(t, "one goroutine", gos(2, 2, 2), nil, gos(2), gos(2, 2), nil, gos(2), gos(2, 2))
	moved(t, "two", gos(1, 0), nil, gos(1), gos(0), gos(1), gos(0, 1))
	moved(t, "long blocks", gos(0, 0, 1, 1, 1, 2),
		nil, gos(0), gos(0, 0), gos(0, 0, 1), gos(0, 0, 1, 1), gos(0, 0, 1, 1, 1),
		gos(1, 1, 1, 2), gos(0, 1, 1, 1, 2), gos(0, 0, 2), gos(0, 0, 1, 2), gos(0, 0, 1, 1, 2), gos(0, 0, 1, 1, 1),
		gos(1, 1, 1, 0, 0, 2), gos(0, 0, 2, 1, 1, 1))
	// alternatives go along, and make no block.
	a, b, c := api.Pick{Go: 1, Alt: 3}, api.Pick{Go: 1, Alt: 2}, api.Pick{Go: 0, Alt: 1}
	moved(t, "alternatives", []api.Pick{a, b, c}, nil, []api.Pick{a}, []api.Pick{a, b}, []api.Pick{c}, []api.Pick{a, c}, []api.Pick{a, b}, []api.Pick{c, a, b})
	odd := []api.Pick{{Go: far[0], Alt: far[7]}, {Go: far[7], Alt: far[0]}}
	moved(t, "any picks", odd, nil, odd[:1], odd[1:], odd[:1], []api.Pick{odd[1], odd[0]})
}

// 24.1: by the chapter's words, of any picks.
func TestMovesModel(t *testing.T) {
	for seed := range uint64(300) {
		var picks []api.Pick
		for _, n := range sample.Choices(seed, int(seed%40)) {
			picks = append(picks, api.Pick{Go: n % (1 + int(seed%5)), Alt: n % 3})
		}
		moved(t, "sampled", picks, movesOf(picks)...)
	}
}

// 24.1: as many picks as there may be, and one more.
func TestMovesOfMany(t *testing.T) {
	turns := make([]api.Pick, api.MaxSteps+1)
	for i := range turns {
		turns[i].Go = i % 2
	}
	most := turns[:api.MaxSteps]
	moved(t, "in turn", most, movesOf(most)...)
	if l, e := shrink.Moves(most); len(l) != 3*api.MaxSteps-1 || e != api.OK {
		t.Errorf("in turn: %d %v", len(l), e)
	}
	one := make([]api.Pick, api.MaxSteps)
	moved(t, "one goroutine", one, movesOf(one)...)
	for _, picks := range [][]api.Pick{turns, make([]api.Pick, api.MaxSteps+1), make([]api.Pick, 5*api.MaxSteps)} {
		if l, e := shrink.Moves(picks); len(l) > 0 || e != api.ErrLong {
			t.Errorf("%d picks: %v %v", len(picks), l, e)
		}
	}
}

// 24.1: by how many picks, then by how many switches.
func TestShorter(t *testing.T) {
	for _, x := range []struct {
		a, b []api.Pick
		want bool
	}{
		{nil, nil, false}, {nil, []api.Pick{}, false}, {nil, gos(0), true}, {gos(0), nil, false},
		{gos(0, 1), gos(0, 0, 0), true}, {gos(0, 0, 0), gos(0, 1), false},
		{gos(0, 0, 1), gos(0, 1, 0), true}, {gos(0, 1, 0), gos(0, 0, 1), false},
		{gos(0, 1), gos(0, 1), false}, {gos(0, 1), gos(1, 0), false}, {gos(0, 0), gos(1, 1), false}, {gos(5, 5), gos(0, 1), true},
		{[]api.Pick{{Alt: 1}, {Alt: 2}}, []api.Pick{{}, {}}, false}, {[]api.Pick{{}, {}}, []api.Pick{{Alt: 1}, {Alt: 2}}, false},
		{gos(far[0], far[0], far[7]), gos(far[0], far[7], far[0]), true},
		{make([]api.Pick, 1000), make([]api.Pick, 1001), true}, {make([]api.Pick, 1001), make([]api.Pick, 1000), false},
		{make([]api.Pick, 1000), append(make([]api.Pick, 999), api.Pick{Go: 1}), true},
	} {
		if is := shrink.Shorter(x.a, x.b); is != x.want {
			t.Errorf("%d picks, %d picks: %v", len(x.a), len(x.b), is)
		}
	}
}

// 24.1: nothing is shorter than itself; of two of which neither is shorter, as many picks and switches.
func TestShorterModel(t *testing.T) {
	var l [][]api.Pick
	for seed := range uint64(60) {
		var picks []api.Pick
		for _, n := range sample.Choices(seed, int(seed%7)) {
			picks = append(picks, api.Pick{Go: n % 3, Alt: n % 2})
		}
		l = append(l, picks)
	}
	for _, a := range l {
		for _, b := range l {
			if is := shrink.Shorter(a, b); is != isShorter(a, b) || is && shrink.Shorter(b, a) {
				t.Errorf("%v, %v: %v", a, b, is)
			}
		}
	}
}
