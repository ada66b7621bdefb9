package clock_test

import (
	"math"
	"strconv"
	"strings"
	"testing"

	"scarab/api"
	"scarab/clock"
	"scarab/sample"
)

// 11.4: texts, written out.
func TestText(t *testing.T) {
	for s, a := range map[string]api.Clock{
		"<0,0,0,0,0,0>":                   {},
		"<1,3,2,0,0,0>":                   {1, 3, 2},
		"<10,200,3000,0,50,6>":            {10, 200, 3000, 0, 50, 6},
		"<0,0,0,0,0,1073741824>":          {5: clock.MaxTime},
		"<1073741824,0,0,0,0,1073741823>": {clock.MaxTime, 0, 0, 0, 0, clock.MaxTime - 1},
	} {
		if got, e := clock.Text(a); got != s || e != api.OK {
			t.Errorf("Text of %v: %q %v", a, got, e)
		}
		if got, e := clock.Parse(s); got != a || e != api.OK {
			t.Errorf("Parse(%q): %v %v", s, got, e)
		}
	}
}

// unread asks that a text is told to be wrong, and nothing else.
func unread(t *testing.T, s string, want api.Errno) {
	t.Helper()
	if a, e := clock.Parse(s); a != (api.Clock{}) || e != want {
		t.Errorf("Parse(%.40q): %v %v, not %v", s, a, e, want)
	}
}

// 11.4, R5: texts that no clock has, the chapter's example 2 among them.
func TestNoText(t *testing.T) {
	for _, s := range []string{
		"", "<", ">", "<>", "0", "<0,0,0,0,0>", "<0,0,0,0,0,0,0>", "<,,,,,>", "<0,0,0,0,0,>", "<,0,0,0,0,0>", "<0,,0,0,0,0,0>",
		"0,0,0,0,0,0", "<0,0,0,0,0,0", "0,0,0,0,0,0>", "<<0,0,0,0,0,0>", "<0,0,0,0,0,0>>", "<<0,0,0,0,0,0>>", ">0,0,0,0,0,0<",
		"<0,0,0<,0,0,0>", "<0,0,<0>,0,0,0>", "(0,0,0,0,0,0)", " <0,0,0,0,0,0>", "<0,0,0,0,0,0> ", "<0,0,0,0,0,0>\n", "< 0,0,0,0,0,0>",
		"<0, 0,0,0,0,0>", "<0 ,0,0,0,0,0>", "<0;0;0;0;0;0>", "<0 0 0 0 0 0>", "<0.0,0,0,0,0,0>", "<1,0,2,0,0,0><1,0,2,0,0,0>", "<0,0,0,0,0,0>x",
	} {
		unread(t, s, api.ErrForm)
	}
	for _, n := range []string{
		"+5", "-0", "-1", "007", "00", "01", "", " ", "1073741825", "2147483648", "9223372036854775807", "9223372036854775808",
		"18446744073709551616", "-1073741824", "0x1", "1e3", "1_000", "five", "٣", "\x00", "--1", "1-", "+", "-", strings.Repeat("9", 1000),
		"0" + strings.Repeat("0", 60000) + "1", strings.Repeat("0", 60000),
	} {
		for g := range api.MaxGos {
			numbers := []string{"1", "2", "3", "4", "5", "6"}
			numbers[g] = n
			unread(t, "<"+strings.Join(numbers, ",")+">", api.ErrForm)
		}
	}
	for _, n := range wrong {
		unread(t, "<0,0,0,0,0,"+strconv.Itoa(n)+">", api.ErrForm)
	}
}

// 11.4, R1: a text has at most MaxBytes bytes.
func TestLongText(t *testing.T) {
	for _, s := range []string{"<", ",", "0", "9", ">", "x"} {
		unread(t, strings.Repeat(s, api.MaxBytes), api.ErrForm)
		unread(t, strings.Repeat(s, api.MaxBytes+1), api.ErrLong)
	}
	unread(t, "<0,0,0,0,0,0>"+strings.Repeat(" ", api.MaxBytes), api.ErrLong)
	unread(t, strings.Repeat("<0,0,0,0,0,0>", 1<<20), api.ErrLong)
}

// 11.4, 11.5, P9: Parse of Text is the clock; a text of which one byte is turned is another clock's, or none.
func TestThereAndBack(t *testing.T) {
	for seed := range uint64(30) {
		for _, a := range sampled(seed, 30) {
			s, e := clock.Text(a)
			if e != api.OK {
				t.Fatalf("Text of %v: %v", a, e)
			}
			if b, e := clock.Parse(s); b != a || e != api.OK {
				t.Errorf("Parse(%q): %v %v", s, b, e)
			}
		}
	}
	const s = "<1,20,0,1073741824,300,7>"
	for i := range s {
		for c := range 256 {
			turned := []byte(s)
			turned[i] = byte(c)
			a, e := clock.Parse(string(turned))
			switch back, _ := clock.Text(a); {
			case e == api.OK && back != string(turned), e != api.OK && (e != api.ErrForm || a != (api.Clock{})):
				t.Errorf("Parse(%q): %v %v", turned, a, e)
			}
		}
		unread(t, s[:i], api.ErrForm)
	}
}

// P1: calls with any clocks, places and texts end without a panic.
func TestAnything(t *testing.T) {
	for seed := range uint64(300) {
		n := append(sample.Choices(seed, 13), math.MaxInt)
		a, b := api.Clock(n[:6]), api.Clock(n[6:12])
		clock.Check(a)
		clock.Join(a, b)
		clock.Meet(a, b)
		clock.Cmp(a, b)
		clock.Joined([]api.Clock{a, b})
		clock.Tops([]api.Clock{a, b})
		for _, g := range n {
			clock.Tick(a, g)
			clock.Tick(api.Clock{}, g)
		}
		s, _ := clock.Text(a)
		clock.Parse(s)
		bytes := make([]byte, len(n))
		for i := range n {
			bytes[i] = "<>,0123456789-+ x"[n[i]&math.MaxInt%17]
		}
		clock.Parse(string(bytes))
	}
}
