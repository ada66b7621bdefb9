package desk

import (
	"slices"
	"strings"

	"scarab/api"
	"scarab/asm"
)

const (
	mostNumber = 999999999          // the greatest number that a word says
	digits     = "0123456789abcdef" // to the base 16
)

// args are what a command's words say, by their kinds; and the text of its program lines.
type args struct {
	numbers    []int
	picks      []api.Pick
	mode, kind int
	bytes      []byte
	text       string
}

// read is what words say that are of a form: kinds, one for each word; .. behind a kind stands for any number of these.
// It tells too whether they are.
func read(form string, words []string) (args, bool) {
	var a args
	for _, kind := range strings.Fields(form) {
		kind, all := strings.CutSuffix(kind, "..")
		n := 1
		if all {
			n = len(words)
		}
		if n > len(words) {
			return args{}, false
		}
		for _, word := range words[:n] {
			if !a.take(kind, word) {
				return args{}, false
			}
		}
		words = words[n:]
	}
	return a, len(words) == 0
}

// take takes what a word of a kind says, and tells whether it is one.
func (a *args) take(kind, word string) (ok bool) {
	switch kind {
	case "N":
		var x int
		x, ok = numberOf(word)
		a.numbers = append(a.numbers, x)
	case "PICK":
		var x api.Pick
		x, ok = pickOf(word)
		a.picks = append(a.picks, x)
	case "MODE":
		a.mode, ok = modeOf(word)
	case "KIND":
		a.kind, ok = kindOf(word)
	case "HEX":
		a.bytes, ok = hexOf(word)
	}
	return ok
}

// isWord tells whether a text is a word.
func isWord(s string) bool {
	for i := range len(s) {
		if s[i] <= ' ' || s[i] > '~' {
			return false
		}
	}
	return s != ""
}

// numberOf is the number of a word, and whether it is one.
func numberOf(word string) (int, bool) {
	x, ok := asm.Number(word)
	if !ok || x < 0 || x > mostNumber {
		return 0, false
	}
	return int(x), true
}

// pickOf is the pick of a word, and whether it is one.
func pickOf(word string) (api.Pick, bool) {
	before, behind, _ := strings.Cut(word, ".")
	g, isGo := numberOf(before)
	alt, isAlt := numberOf(behind)
	return api.Pick{Go: g, Alt: alt}, isGo && isAlt
}

// modeOf is the mode of a word, and whether it is one.
func modeOf(word string) (int, bool) {
	n := slices.Index([]string{api.ModeTree: "tree", api.ModeSleep: "sleep", api.ModePersist: "persist", api.ModeDpor: "dpor"}, word)
	return n, n > 0
}

// kindOf is the kind of thing of a word, and whether it is one.
func kindOf(word string) (int, bool) {
	n := slices.Index([]string{api.KindRegister: "register", api.KindCounter: "counter", api.KindQueue: "queue", api.KindStack: "stack"}, word)
	return n, n > 0
}

// hexOf are the bytes of a word, and whether it is such; no word is empty.
func hexOf(word string) ([]byte, bool) {
	var b []byte
	for pair := range slices.Chunk([]byte(word), 2) {
		high, low := strings.IndexByte(digits, pair[0]), strings.IndexByte(digits, pair[len(pair)-1])
		if len(pair) < 2 || high < 0 || low < 0 {
			return nil, false
		}
		b = append(b, byte(high<<4|low))
	}
	return b, true
}
