package canon

import (
	"strconv"

	"scarab/api"
)

// Key is a text that two traces have in common just if they are the same.
func Key(t []api.Event) (string, api.Errno) {
	l, e := canonical(t)
	if e != api.OK {
		return "", e
	}
	var key []byte
	for _, x := range l {
		key = numbers(key, int64(x.Go), int64(x.Func), int64(x.PC), int64(x.Op), int64(x.Alt), x.Val, x.Tag)
		for _, a := range x.Touch[:x.Touches] {
			key = numbers(append(key, ':'), int64(a.Kind), int64(a.Num), bit(a.Write))
		}
		key = append(key, ';')
	}
	return string(key), api.OK
}

// numbers are bytes with numbers behind them, and a comma between two.
func numbers(b []byte, l ...int64) []byte {
	for i, n := range l {
		if i > 0 {
			b = append(b, ',')
		}
		b = strconv.AppendInt(b, n, 10)
	}
	return b
}

// bit is a truth as a number.
func bit(is bool) int64 {
	if is {
		return 1
	}
	return 0
}
