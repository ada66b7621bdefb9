package clock

import (
	"strconv"
	"strings"

	"scarab/api"
)

// Text is a clock as a text.
func Text(a api.Clock) (string, api.Errno) {
	if e := Check(a); e != api.OK {
		return "", e
	}
	var numbers [api.MaxGos]string
	for g, n := range a {
		numbers[g] = strconv.Itoa(n)
	}
	return "<" + strings.Join(numbers[:], ",") + ">", api.OK
}

// Parse is the clock of a text.
func Parse(s string) (api.Clock, api.Errno) {
	if len(s) > api.MaxBytes {
		return api.Clock{}, api.ErrLong
	}
	numbers := strings.Split(strings.Trim(s, "<>"), ",")
	if len(numbers) != api.MaxGos {
		return api.Clock{}, api.ErrForm
	}
	var a api.Clock
	for g, digits := range numbers {
		n, err := strconv.Atoi(digits)
		if err != nil {
			return api.Clock{}, api.ErrForm
		}
		a[g] = n
	}
	// a clock has one text alone: of another one that reads the same (+5, 007, a bracket too many) it is not the text.
	if text, e := Text(a); e != api.OK || text != s {
		return api.Clock{}, api.ErrForm
	}
	return a, api.OK
}
