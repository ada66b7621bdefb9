package word

import (
	"strings"
	"testing"

	"scarab/api"
)

// 2.1: names and arities, as the document's table has them.
func TestNames(t *testing.T) {
	all := strings.Fields("neg not abs ones lead trail flip bool no i8 i16 i32 u8 u16 u32 " +
		"add sub mul div rem and or xor clear shl shr ushr rotl eq ne lt le ult min max high")
	if len(all) != int(api.LastTwo) {
		t.Fatalf("%d names", len(all))
	}
	for i, name := range all {
		op := api.Op(i + 1)
		if Name(op) != name {
			t.Errorf("Name(%d): %q, not %q", op, Name(op), name)
		}
		if got, ok := Named(name); got != op || !ok {
			t.Errorf("Named(%q): %d, %v", name, got, ok)
		}
		want := 2
		if i < 15 {
			want = 1
		}
		if Arity(op) != want {
			t.Errorf("Arity(%s): %d", name, Arity(op))
		}
	}
}

// 2.1: texts that name none.
func TestNamedNone(t *testing.T) {
	for _, s := range []string{"", " ", "Neg", "NEG", "neg ", " neg", "ne g", "const", "load", "end", "1", "i64", "shrl", strings.Repeat("neg", 50000)} {
		if op, ok := Named(s); op != 0 || ok {
			t.Errorf("Named(%.20q): %d, %v", s, op, ok)
		}
	}
}

// 2.3: Text.
func TestText(t *testing.T) {
	for _, c := range []struct {
		x    int64
		want string
	}{{0, "0"}, {7, "7"}, {-7, "-7"}, {100, "100"}, {most, "9223372036854775807"}, {least, "-9223372036854775808"}} {
		if got := Text(c.x); got != c.want {
			t.Errorf("Text(%d): %q", c.x, got)
		}
	}
}

// 2.3: texts of numbers.
func TestParse(t *testing.T) {
	for _, c := range []struct {
		s    string
		want int64
	}{
		{"0", 0}, {"5", 5}, {"-1", -1}, {"10", 10}, {"9223372036854775807", most}, {"-9223372036854775808", least},
		{"0x0", 0}, {"0xff", 255}, {"0xFf", 255}, {"0x00ff", 255}, {"0x0000000000000001", 1}, {"0xabcdefABCDEF", 0xabcdefabcdef},
		{"0xffffffffffffffff", -1}, {"0x8000000000000000", least}, {"0x7fffffffffffffff", most}, {"0x1234567890", 0x1234567890},
	} {
		if got, e := Parse(c.s); got != c.want || e != api.OK {
			t.Errorf("Parse(%q): %d, %v", c.s, got, e)
		}
	}
}

// 2.3: texts of none.
func TestParseWrong(t *testing.T) {
	for _, s := range []string{
		"", "-", "+", "-0", "+1", "+0", "01", "-01", "00", "--1", "1-", "1 ", " 1", "1\n", "\t1", "1_000", "1e3", "1.0", "a", "ff",
		"9223372036854775808", "-9223372036854775809", "99999999999999999999999999",
		"0x", "0X1", "-0x1", "+0x1", "0x-1", "0x+1", "0x 1", " 0x1", "0x1 ", "0xg", "0x1g", "0x_1", "0x1_0", "0x0x1",
		"0x00000000000000001", "0x10000000000000000", "x1", "\u0661", "1\x00", "0x\xff",
		strings.Repeat("1", api.MaxBytes), "0x" + strings.Repeat("0", api.MaxBytes-2),
	} {
		if x, e := Parse(s); x != 0 || e != api.ErrDigits {
			t.Errorf("Parse(%.30q): %d, %v", s, x, e)
		}
	}
}

// R1: a text above the limit, whatever stands in it.
func TestParseLong(t *testing.T) {
	for _, s := range []string{strings.Repeat("1", api.MaxBytes+1), "0x" + strings.Repeat("0", api.MaxBytes-1), strings.Repeat(" ", 3*api.MaxBytes)} {
		if x, e := Parse(s); x != 0 || e != api.ErrLong {
			t.Errorf("Parse of %d bytes: %d, %v", len(s), x, e)
		}
	}
}
