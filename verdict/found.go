package verdict

import (
	"cmp"
	"strconv"

	"scarab/api"
)

// Compare puts what is found in order.
func Compare(a, b api.Found) int {
	return cmp.Or(
		cmp.Compare(a.Kind, b.Kind),
		cmp.Compare(a.Num, b.Num),
		compareSpots(a.A, b.A),
		compareSpots(a.B, b.B),
		cmp.Compare(a.Why, b.Why),
	)
}

// compareSpots is the order of places: by function, then by instruction.
func compareSpots(a, b api.Spot) int {
	return cmp.Or(cmp.Compare(a.Func, b.Func), cmp.Compare(a.PC, b.PC))
}

// Text is what was found in words.
func Text(f api.Found) (string, api.Errno) {
	at := " at " + spotText(f.A)
	switch f.Kind {
	case api.KindAssert:
		return "assert" + at, api.OK
	case api.KindFault:
		return "fault " + strconv.Itoa(f.Why) + at, api.OK
	case api.KindDeadlock:
		return "deadlock" + at, api.OK
	case api.KindLeak:
		return "leak" + at, api.OK
	case api.KindRace:
		return "race on v" + strconv.Itoa(f.Num) + at + " and " + spotText(f.B), api.OK
	}
	return "", api.ErrArg
}

// spotText is a place in words.
func spotText(s api.Spot) string {
	return "f" + strconv.Itoa(s.Func) + ":" + strconv.Itoa(s.PC)
}
