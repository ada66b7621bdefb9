package sample

import (
	"cmp"
	"slices"

	"scarab/api"
)

// Choices are any numbers.
func Choices(seed uint64, n int) []int {
	d := dice(seed)
	l := make([]int, n)
	for i := range l {
		l[i] = int(d.any())
	}
	return l
}

// Trace are n events that are a trace, be it one of a run or not: of a few goroutines, with what they touch among a few
// objects; all else as it likes.
func Trace(seed uint64, n int) []api.Event {
	d := dice(seed)
	gos, nums := 1+d.below(api.MaxGos), 1+d.below(api.MaxVars)
	l := make([]api.Event, n)
	for i := range l {
		l[i] = d.event(gos, nums)
	}
	return l
}

// event is an event of one of some goroutines, with accesses to objects whose numbers are below nums.
func (d *dice) event(gos, nums int) api.Event {
	x := api.Event{Go: d.below(gos), Func: int(d.any()), PC: int(d.any()), Op: api.Op(d.any()), Alt: int(d.any()), Val: d.any(), Tag: d.any()}
	l := []api.Access{{Kind: api.ObGo, Num: x.Go, Write: true}}
	for range d.upTo(3) {
		a := d.access(nums)
		if !slices.ContainsFunc(l, func(o api.Access) bool { return o.Kind == a.Kind && o.Num == a.Num }) {
			l = append(l, a)
		}
	}
	slices.SortFunc(l, func(a, b api.Access) int { return cmp.Or(cmp.Compare(a.Kind, b.Kind), cmp.Compare(a.Num, b.Num)) })
	x.Touches = copy(x.Touch[:], l)
	return x
}

// access is an access to an object whose number is below nums.
func (d *dice) access(nums int) api.Access {
	many := [...]int{api.ObVar: api.MaxVars, api.ObLock: api.MaxLocks, api.ObChan: api.MaxChans, api.ObGos: 1, api.ObGo: api.MaxGos, api.ObNotes: 1}
	kind := 1 + d.below(api.ObNotes)
	return api.Access{Kind: kind, Num: d.below(min(nums, many[kind])), Write: d.below(2) == 0}
}
