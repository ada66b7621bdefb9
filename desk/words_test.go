package desk_test

import (
	"slices"
	"strings"
	"testing"

	"scarab/desk"
)

// 28.3: Words: bytes from 33 to 126, with one blank between each two words.
func TestWords(t *testing.T) {
	for _, x := range []struct {
		line string
		want []string
	}{
		{"a", []string{"a"}}, {"a b", []string{"a", "b"}}, {"run 0.0 1.2", []string{"run", "0.0", "1.2"}}, {"! ~", []string{"!", "~"}},
		{"|a", []string{"|a"}}, {"#", []string{"#"}}, {"\"\\", []string{"\"\\"}}, {"a" + strings.Repeat(" b", 70000), append([]string{"a"}, slices.Repeat([]string{"b"}, 70000)...)},
	} {
		if l, ok := desk.Words(x.line); !ok || !slices.Equal(l, x.want) {
			t.Errorf("%.20q: %.9v %v", x.line, l, ok)
		}
	}
	for _, line := range []string{"", " ", "  ", " a", "a ", "a  b", "a b ", " a b", "a   b", "a\tb", "a\nb", "a\n", "\n", "a\rb", "a\x00", "a\x1f", "a\x7f", "a \x80 b", "é", "a\u00a0b", "\xff"} {
		if l, ok := desk.Words(line); ok || len(l) > 0 {
			t.Errorf("%q: %q %v", line, l, ok)
		}
	}
}

// 28.3: of every byte whether it may stand in a word.
func TestWordBytes(t *testing.T) {
	for c := range 256 {
		s := string([]byte{'a', byte(c), 'b'})
		l, ok := desk.Words(s)
		switch {
		case c == ' ':
			if !ok || !slices.Equal(l, []string{"a", "b"}) {
				t.Errorf("%q: %q %v", s, l, ok)
			}
		case c > 32 && c < 127:
			if !ok || !slices.Equal(l, []string{s}) {
				t.Errorf("%q: %q %v", s, l, ok)
			}
		default:
			if ok || len(l) > 0 {
				t.Errorf("%q: %q %v", s, l, ok)
			}
		}
	}
}

// 28.3: Told, written out.
func TestTold(t *testing.T) {
	for _, x := range [][2]string{
		{"", `""`}, {"a\"\n", `"a\"\n"`}, {"a\"\n\x01", `"a\"\n\x01"`}, {"a b", `"a b"`}, {`\`, `"\\"`}, {`\n`, `"\\n"`}, {"\"\"", `"\"\""`},
		{"\r\t\x00", `"\x0d\x09\x00"`}, {"\x7f\x80\xff", `"\x7f\x80\xff"`}, {"é", `"\xc3\xa9"`}, {" ~!'`", "\" ~!'`\""}, {"\x1f\x0a\x0b", `"\x1f\n\x0b"`},
	} {
		if got := desk.Told(x[0]); got != x[1] {
			t.Errorf("%q: %s, not %s", x[0], got, x[1])
		}
	}
	if got := desk.Told(strings.Repeat("\x00", 1<<17)); got != `"`+strings.Repeat(`\x00`, 1<<17)+`"` {
		t.Errorf("of many bytes %d are told", len(got))
	}
}

// 28.3: of every byte how it is told; no two texts are told the same.
func TestToldBytes(t *testing.T) {
	const hex = "0123456789abcdef"
	seen := map[string]string{}
	for c := range 256 {
		want := `\x` + hex[c/16:c/16+1] + hex[c%16:c%16+1]
		switch {
		case c == '"' || c == '\\':
			want = `\` + string(rune(c))
		case c == 10:
			want = `\n`
		case c >= 32 && c <= 126:
			want = string(rune(c))
		}
		s := string([]byte{byte(c)})
		got := desk.Told(s)
		if got != `"`+want+`"` {
			t.Errorf("%d: %s, not %s", c, got, want)
		}
		for _, more := range []string{s, s + "n", s + "x0a", `\` + s, s + `"`} {
			told := desk.Told(more)
			if other, there := seen[told]; there && other != more {
				t.Errorf("%q and %q are told the same", other, more)
			}
			seen[told] = more
		}
	}
}
