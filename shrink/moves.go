package shrink

import (
	"iter"
	"slices"

	"scarab/api"
)

// moves hands out all moves of picks, in their order, each in memory of its own.
func moves(picks []api.Pick) iter.Seq[[]api.Pick] {
	return func(yield func([]api.Pick) bool) {
		for _, kind := range []iter.Seq[[]api.Pick]{beginnings(picks), without(picks), turned(picks)} {
			for move := range kind {
				if !yield(move) {
					return
				}
			}
		}
	}
}

// beginnings hands out the first picks, from none of them on.
func beginnings(picks []api.Pick) iter.Seq[[]api.Pick] {
	return func(yield func([]api.Pick) bool) {
		for k := range picks {
			if !yield(slices.Clone(picks[:k])) {
				return
			}
		}
	}
}

// without hands out, for each place, the picks without those of its goroutine from there on.
func without(picks []api.Pick) iter.Seq[[]api.Pick] {
	return func(yield func([]api.Pick) bool) {
		for i, gone := range picks {
			move := slices.Clone(picks[:i])
			for _, pick := range picks[i:] {
				if pick.Go != gone.Go {
					move = append(move, pick)
				}
			}
			if !yield(move) {
				return
			}
		}
	}
}

// turned hands out, for each block but the last one, the picks with it and the next one changed about.
func turned(picks []api.Pick) iter.Seq[[]api.Pick] {
	return func(yield func([]api.Pick) bool) {
		for from := 0; ; {
			middle := blockEnd(picks, from)
			if middle == len(picks) {
				return
			}
			to := blockEnd(picks, middle)
			if !yield(slices.Concat(picks[:from], picks[middle:to], picks[from:middle], picks[to:])) {
				return
			}
			from = middle
		}
	}
}

// blockEnd is the place behind the block that begins at a place.
func blockEnd(picks []api.Pick, from int) int {
	to := from
	for to < len(picks) && picks[to].Go == picks[from].Go {
		to++
	}
	return to
}
