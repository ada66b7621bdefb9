package octet

import (
	"bytes"
	"math"
	"testing"

	"scarab/api"
)

// stands fails unless the reader is at a place, with so many bytes left.
func stands(t *testing.T, r *Reader, at, left int) {
	t.Helper()
	end := api.OK
	if left > 0 {
		end = api.ErrRest
	}
	if r.At() != at || r.Left() != left || r.End() != end {
		t.Errorf("it stands at %d, %d left, %v; not at %d, %d left, %v", r.At(), r.Left(), r.End(), at, left, end)
	}
}

// 1.4: numbers and bytes one behind another.
func TestReader(t *testing.T) {
	r := NewReader([]byte{172, 2, 1, 7, 8})
	stands(t, r, 0, 5)
	if x, e := r.Uint(); x != 300 || e != api.OK {
		t.Errorf("Uint: %d, %v", x, e)
	}
	stands(t, r, 2, 3)
	if x, e := r.Int(); x != -1 || e != api.OK {
		t.Errorf("Int: %d, %v", x, e)
	}
	stands(t, r, 3, 2)
	if b, e := r.Take(0); len(b) != 0 || e != api.OK {
		t.Errorf("Take(0): %v, %v", b, e)
	}
	stands(t, r, 3, 2)
	if b, e := r.Take(1); !bytes.Equal(b, []byte{7}) || e != api.OK {
		t.Errorf("Take(1): %v, %v", b, e)
	}
	if b, e := r.Take(1); !bytes.Equal(b, []byte{8}) || e != api.OK {
		t.Errorf("Take(1): %v, %v", b, e)
	}
	stands(t, r, 5, 0)
	if b, e := r.Take(0); len(b) != 0 || e != api.OK {
		t.Errorf("Take(0) at the end: %v, %v", b, e)
	}
}

// 1.4: with an error it stays.
func TestReaderStays(t *testing.T) {
	for _, c := range []struct {
		b    []byte
		want api.Errno
	}{
		{[]byte{9, 128, 0}, api.ErrPad},
		{[]byte{9, 128}, api.ErrShort},
		{[]byte{9}, api.ErrShort},
		{append([]byte{9}, bytes.Repeat([]byte{255}, 10)...), api.ErrWide},
	} {
		r := NewReader(c.b)
		if _, e := r.Uint(); e != api.OK {
			t.Fatalf("Uint of the first byte: %v", e)
		}
		for range 2 {
			if x, e := r.Uint(); x != 0 || e != c.want {
				t.Errorf("Uint of %v: %d, %v", c.b, x, e)
			}
			if x, e := r.Int(); x != 0 || e != c.want {
				t.Errorf("Int of %v: %d, %v", c.b, x, e)
			}
			stands(t, r, 1, len(c.b)-1)
		}
	}
}

// 1.4: counts that are wrong.
func TestTakeWrong(t *testing.T) {
	r := NewReader([]byte{1, 2, 3})
	for _, c := range []struct {
		n    int
		want api.Errno
	}{{-1, api.ErrArg}, {math.MinInt, api.ErrArg}, {4, api.ErrShort}, {math.MaxInt, api.ErrShort}} {
		if b, e := r.Take(c.n); len(b) != 0 || e != c.want {
			t.Errorf("Take(%d): %v, %v", c.n, b, e)
		}
		stands(t, r, 0, 3)
	}
	if b, e := r.Take(3); !bytes.Equal(b, []byte{1, 2, 3}) || e != api.OK {
		t.Errorf("Take(3): %v, %v", b, e)
	}
	if _, e := r.Take(1); e != api.ErrShort {
		t.Errorf("Take(1) at the end: %v", e)
	}
}

// 1.4, R3: a reader has bytes of its own, and gives none of them away.
func TestReaderOwnBytes(t *testing.T) {
	b := []byte{1, 2, 3, 4}
	r := NewReader(b)
	b[0], b[1], b[2], b[3] = 9, 9, 9, 9
	first, _ := r.Take(2)
	if !bytes.Equal(first, []byte{1, 2}) {
		t.Errorf("Take(2): %v", first)
	}
	again := NewReader(first)
	got, _ := again.Take(1)
	got[0] = 77
	got = append(got, 78)
	if x, e := again.Uint(); x != 2 || e != api.OK || first[0] != 1 {
		t.Errorf("what was taken is the reader's own: %d, %v, %v, %v", x, e, first, got)
	}
	first = append(first, 50, 51)
	if rest, e := r.Take(2); !bytes.Equal(rest, []byte{3, 4}) || e != api.OK {
		t.Errorf("Take(2) behind %v: %v, %v", first, rest, e)
	}
}

// 1.4: a nil reader, one of nothing, and a reader that New did not make.
func TestReaderOfNothing(t *testing.T) {
	for _, r := range []*Reader{nil, NewReader(nil), NewReader([]byte{}), {}} {
		stands(t, r, 0, 0)
		if x, e := r.Uint(); x != 0 || e != api.ErrShort {
			t.Errorf("Uint: %d, %v", x, e)
		}
		if x, e := r.Int(); x != 0 || e != api.ErrShort {
			t.Errorf("Int: %d, %v", x, e)
		}
		if b, e := r.Take(0); len(b) != 0 || e != api.OK {
			t.Errorf("Take(0): %v, %v", b, e)
		}
		if b, e := r.Take(1); len(b) != 0 || e != api.ErrShort {
			t.Errorf("Take(1): %v, %v", b, e)
		}
		if b, e := r.Take(-1); len(b) != 0 || e != api.ErrArg {
			t.Errorf("Take(-1): %v, %v", b, e)
		}
		stands(t, r, 0, 0)
	}
}
