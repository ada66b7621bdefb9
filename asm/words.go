package asm

import (
	"strings"

	"scarab/api"
	"scarab/word"
)

const (
	remark = ";"       // from it on nothing of a line is a word
	none   = "_"       // the word of -1, where that may stand
	most   = 999999999 // of all numbers that are no values
)

// Words are a line's words.
func Words(line string) []string {
	said, _, _ := strings.Cut(line, remark)
	return strings.FieldsFunc(said, func(r rune) bool { return r == ' ' || r == '\t' })
}

// Number is the number of a word.
func Number(s string) (int64, bool) {
	x, e := word.Parse(s)
	// word reads texts to the base 16 too, which are no numbers here.
	if e != api.OK || word.Text(x) != s {
		return 0, false
	}
	return x, true
}

// sign is what the word of an operand begins with. Its letter is one of prog.Form's or, in lines that are no
// instructions, k of how many there are of something, e of a target or none.
func sign(letter byte) string {
	switch letter {
	case 'n', 'k':
		return ""
	case 'o', 'w', 'p':
		return "r"
	case 'a':
		return "v"
	case 't', 'e':
		return "@"
	}
	return string(letter)
}

// mayLack tells whether an operand may be -1.
func mayLack(letter byte) bool { return letter == 'o' || letter == 'e' }

// operand is the operand that a word stands for.
func operand(letter byte, s string) (int64, api.Errno) {
	if mayLack(letter) && s == none {
		return -1, api.OK
	}
	digits, ok := strings.CutPrefix(s, sign(letter))
	if !ok {
		return 0, api.ErrWord
	}
	x, ok := Number(digits)
	if !ok || letter != 'n' && (x < 0 || x > most) {
		return 0, api.ErrNumber
	}
	return x, api.OK
}

// spelt is the word of an operand.
func spelt(letter byte, x int64) string {
	if mayLack(letter) && x == -1 {
		return none
	}
	return sign(letter) + word.Text(x)
}
