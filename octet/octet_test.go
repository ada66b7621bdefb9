package octet

import (
	"bytes"
	"hash/crc32"
	"math"
	"math/rand/v2"
	"testing"

	"scarab/api"
)

// edges are the numbers around each power of 2.
func edges() []uint64 {
	out := []uint64{0}
	for k := range 64 {
		p := uint64(1) << k
		out = append(out, p-1, p, p+1)
	}
	return append(out, math.MaxUint64-1, math.MaxUint64)
}

func dice() *rand.Rand { return rand.New(rand.NewPCG(1, 2)) }

// groups is the document's form of a number, group by group.
func groups(x uint64) []byte {
	out := []byte{byte(x % 128)}
	for x /= 128; x > 0; x /= 128 {
		out[len(out)-1] += 128
		out = append(out, byte(x%128))
	}
	return out
}

// 1.1: Put.
func TestPut(t *testing.T) {
	for _, c := range []struct {
		x    uint64
		want []byte
	}{
		{0, []byte{0}}, {1, []byte{1}}, {127, []byte{127}}, {128, []byte{128, 1}}, {300, []byte{172, 2}},
		{16383, []byte{255, 127}}, {16384, []byte{128, 128, 1}},
		{math.MaxUint64, []byte{255, 255, 255, 255, 255, 255, 255, 255, 255, 1}},
	} {
		if got := Put(nil, c.x); !bytes.Equal(got, c.want) {
			t.Errorf("Put(nothing, %d): %v", c.x, got)
		}
	}
	for _, x := range edges() {
		want := append([]byte{9, 200}, groups(x)...)
		if got := Put([]byte{9, 200}, x); !bytes.Equal(got, want) {
			t.Errorf("Put(9 200, %d): %v", x, got)
		}
	}
}

// 1.1: PutInt and Size stand on Put.
func TestPutIntAndSize(t *testing.T) {
	for _, x := range edges() {
		if got, want := PutInt([]byte{7}, int64(x)), Put([]byte{7}, Zig(int64(x))); !bytes.Equal(got, want) {
			t.Errorf("PutInt(7, %d): %v, not %v", int64(x), got, want)
		}
		if got := Size(x); got != len(groups(x)) {
			t.Errorf("Size(%d): %d", x, got)
		}
	}
	if got := PutInt(nil, -1); !bytes.Equal(got, []byte{1}) {
		t.Errorf("PutInt(nothing, -1): %v", got)
	}
	if got := PutInt(nil, math.MinInt64); !bytes.Equal(got, Put(nil, math.MaxUint64)) {
		t.Errorf("PutInt(nothing, least): %v", got)
	}
}

// 1.1: zigzag, from the front on and at both ends.
func TestZigZag(t *testing.T) {
	for i, x := range []int64{0, -1, 1, -2, 2, -3, 3} {
		if Zig(x) != uint64(i) || Zag(uint64(i)) != x {
			t.Errorf("Zig(%d): %d, Zag(%d): %d", x, Zig(x), i, Zag(uint64(i)))
		}
	}
	if Zig(math.MinInt64) != math.MaxUint64 || Zig(math.MaxInt64) != math.MaxUint64-1 {
		t.Error("Zig of the least and the greatest number")
	}
	for _, x := range edges() {
		if Zig(Zag(x)) != x || Zag(Zig(int64(x))) != int64(x) {
			t.Errorf("zigzag of %d there and back", x)
		}
	}
}

// R3: neither the bytes that are handed in nor their spare room are touched or handed out again.
func TestPutKeepsOff(t *testing.T) {
	room := []byte{1, 2, 3, 4, 5, 6, 7, 8}
	first := Put(room[:2], 300)
	second := PutInt(room[:2], -5)
	if !bytes.Equal(room, []byte{1, 2, 3, 4, 5, 6, 7, 8}) {
		t.Errorf("the spare room was written to: %v", room)
	}
	first[0] = 99
	second[1] = 98
	if room[0] != 1 || room[1] != 2 || first[1] != 2 || second[0] != 1 {
		t.Error("an answer shares memory")
	}
}

// 1.2: Get, with its errors in their order.
func TestGet(t *testing.T) {
	nine := bytes.Repeat([]byte{255}, 9)
	pads := bytes.Repeat([]byte{128}, 9)
	for _, c := range []struct {
		b   []byte
		at  int
		x   uint64
		end int
		e   api.Errno
	}{
		{[]byte{172, 2}, 0, 300, 2, api.OK},
		{[]byte{0}, 0, 0, 1, api.OK},
		{[]byte{7, 172, 2, 9}, 1, 300, 3, api.OK},
		{[]byte{5, 6}, 1, 6, 2, api.OK},
		{append(nine[:9:9], 1), 0, math.MaxUint64, 10, api.OK},
		{append(pads[:9:9], 1), 0, 1 << 63, 10, api.OK},
		{[]byte{128, 0}, 0, 0, 0, api.ErrPad},
		{[]byte{255, 128, 0}, 0, 0, 0, api.ErrPad},
		{append(pads[:9:9], 0), 0, 0, 0, api.ErrPad},
		{append(nine[:9:9], 0), 0, 0, 0, api.ErrPad},
		{[]byte{128}, 0, 0, 0, api.ErrShort},
		{nine, 0, 0, 0, api.ErrShort},
		{[]byte{5}, 1, 0, 0, api.ErrShort},
		{nil, 0, 0, 0, api.ErrShort},
		{append(nine[:9:9], 2), 0, 0, 0, api.ErrWide},
		{append(nine[:9:9], 128), 0, 0, 0, api.ErrWide},
		{append(nine[:9:9], 129), 0, 0, 0, api.ErrWide},
		{append(nine[:9:9], 255, 255), 0, 0, 0, api.ErrWide},
		{[]byte{5}, 2, 0, 0, api.ErrArg},
		{[]byte{5}, -1, 0, 0, api.ErrArg},
		{nil, 1, 0, 0, api.ErrArg},
		{[]byte{5}, math.MaxInt, 0, 0, api.ErrArg},
		{[]byte{5}, math.MinInt, 0, 0, api.ErrArg},
	} {
		if x, end, e := Get(c.b, c.at); x != c.x || end != c.end || e != c.e {
			t.Errorf("Get(%v, %d): %d, %d, %v", c.b, c.at, x, end, e)
		}
		x, end, e := GetInt(c.b, c.at)
		if want := Zag(c.x); x != want || end != c.end || e != c.e {
			t.Errorf("GetInt(%v, %d): %d, %d, %v", c.b, c.at, x, end, e)
		}
	}
}

// 1.3: four bytes.
func TestFixed(t *testing.T) {
	if got := Fixed(258); got != [4]byte{0, 0, 1, 2} {
		t.Errorf("Fixed(258): %v", got)
	}
	if got := Fixed(0xFEDCBA98); got != [4]byte{0xFE, 0xDC, 0xBA, 0x98} {
		t.Errorf("Fixed: %v", got)
	}
	for _, x := range edges() {
		f := Fixed(uint32(x))
		b := append(append([]byte{3}, f[:]...), 4)
		if got, end, e := GetFixed(b, 1); got != uint32(x) || end != 5 || e != api.OK {
			t.Errorf("GetFixed(%v, 1): %d, %d, %v", b, got, end, e)
		}
	}
	four := []byte{1, 2, 3, 4}
	if x, end, e := GetFixed(four, 0); x != 0x01020304 || end != 4 || e != api.OK {
		t.Errorf("GetFixed of just four bytes: %d, %d, %v", x, end, e)
	}
	for _, c := range []struct {
		b    []byte
		at   int
		want api.Errno
	}{
		{four, 1, api.ErrShort}, {four, 4, api.ErrShort}, {four, 5, api.ErrArg}, {four, -1, api.ErrArg},
		{nil, 0, api.ErrShort}, {nil, 1, api.ErrArg}, {four[:3], 0, api.ErrShort},
		{four, math.MaxInt, api.ErrArg}, {four, math.MinInt, api.ErrArg},
	} {
		if x, end, e := GetFixed(c.b, c.at); x != 0 || end != 0 || e != c.want {
			t.Errorf("GetFixed(%v, %d): %d, %d, %v", c.b, c.at, x, end, e)
		}
	}
}

// 1.3: the sum is CRC-32.
func TestSum(t *testing.T) {
	if got := Sum([]byte("123456789")); got != 3421780262 {
		t.Errorf("Sum(123456789): %d", got)
	}
	r := dice()
	for n := range 300 {
		b := make([]byte, n)
		for i := range b {
			b[i] = byte(r.Uint32())
		}
		if got, want := Sum(b), crc32.ChecksumIEEE(b); got != want {
			t.Fatalf("Sum(%v): %d, not %d", b, got, want)
		}
	}
}

// 1.5: there and back, and one form alone.
func TestThereAndBack(t *testing.T) {
	ahead := []byte{128, 255, 0}
	for _, x := range edges() {
		b := Put(ahead, x)
		if got, end, e := Get(b, len(ahead)); got != x || end != len(b) || e != api.OK {
			t.Errorf("Get of Put(%d): %d, %d, %v", x, got, end, e)
		}
		b = PutInt(ahead, int64(x))
		if got, end, e := GetInt(b, len(ahead)); got != int64(x) || end != len(b) || e != api.OK {
			t.Errorf("GetInt of PutInt(%d): %d, %d, %v", int64(x), got, end, e)
		}
	}
	r := dice()
	for range 20000 {
		b := make([]byte, 1+r.IntN(12))
		for i := range b {
			// mostly bytes that go on, so that long numbers come about.
			b[i] = byte([]int{0, 1, 127, 128, 129, 255, 255, 200}[r.IntN(8)])
		}
		at := r.IntN(len(b))
		if x, end, e := Get(b, at); e == api.OK && !bytes.Equal(b[at:end], Put(nil, x)) {
			t.Fatalf("Get(%v, %d) is %d, which has another form", b, at, x)
		}
	}
}

// 1.6: which numbers' zigzag is below a power of 2, and what each further seven bits cost.
func TestOrder(t *testing.T) {
	for k := 1; k <= 63; k++ {
		p, half := uint64(1)<<k, int64(1)<<(k-1)
		if Zig(-half) >= p || Zig(half-1) >= p || Zig(half) < p || Zig(-half-1) < p {
			t.Errorf("Zig at the ends of 2^%d", k)
		}
	}
	for k := range 9 {
		last := uint64(1)<<(7*(k+1)) - 1
		if Size(last) != k+1 || Size(last+1) != k+2 {
			t.Errorf("Size around 2^%d", 7*(k+1))
		}
	}
	if Size(0) != 1 || Size(math.MaxUint64) != 10 {
		t.Error("Size of the least and the greatest number")
	}
}

// 1.7: unlike sums of lists that differ in few neighbouring bytes.
func TestSums(t *testing.T) {
	if Sum(nil) != 0 || Sum([]byte{}) != 0 {
		t.Error("Sum of no bytes")
	}
	r := dice()
	for range 20000 {
		b := make([]byte, 1+r.IntN(40))
		for i := range b {
			b[i] = byte(r.Uint32())
		}
		other := bytes.Clone(b)
		from := r.IntN(len(b))
		for i := from; i < min(from+4, len(b)); i++ {
			other[i] = byte(r.Uint32())
		}
		if !bytes.Equal(b, other) && Sum(b) == Sum(other) {
			t.Fatalf("one sum of %v and %v", b, other)
		}
	}
}
