// Package octet is layer 1: numbers in bytes, a sum of bytes, and a reader. See shared/doc/01-octet.md.
package octet

import (
	"math/bits"

	"scarab/api"
)

const (
	more      = 128        // set in each byte of a number but its last one
	mostBytes = 10         // bytes of the greatest number
	turned    = 0xEDB88320 // the sum's polynomial, its lowest bit first
)

// Put is bytes and a number behind them, seven bits a byte.
func Put(b []byte, x uint64) []byte {
	n := Size(x)
	// append alone could write into b's spare room, which is the caller's.
	out := make([]byte, len(b), len(b)+n)
	copy(out, b)
	for range n - 1 {
		out = append(out, byte(x)|more)
		x >>= 7
	}
	return append(out, byte(x))
}

// Get is the number that stands at a place, and the place behind it.
func Get(b []byte, at int) (uint64, int, api.Errno) {
	if !within(b, at) {
		return 0, 0, api.ErrArg
	}
	x := uint64(0)
	for i := range mostBytes {
		if i == len(b)-at {
			return 0, 0, api.ErrShort
		}
		c := b[at+i]
		if i == mostBytes-1 && c > 1 {
			break
		}
		x |= uint64(c&(more-1)) << (7 * i)
		if c >= more {
			continue
		}
		if c == 0 && i > 0 {
			return 0, 0, api.ErrPad
		}
		return x, at + i + 1, api.OK
	}
	return 0, 0, api.ErrWide
}

// within tells whether a place is one of b, or the one behind it.
func within(b []byte, at int) bool { return at >= 0 && at <= len(b) }

// Zig turns a number with a sign into one without.
func Zig(x int64) uint64 { return uint64(x<<1) ^ uint64(x>>63) }

// Zag turns it back.
func Zag(x uint64) int64 { return int64(x>>1) ^ -int64(x&1) }

// PutInt is bytes and a number with a sign behind them.
func PutInt(b []byte, x int64) []byte { return Put(b, Zig(x)) }

// GetInt is the number with a sign that stands at a place, and the place behind it.
func GetInt(b []byte, at int) (int64, int, api.Errno) {
	x, end, e := Get(b, at)
	return Zag(x), end, e
}

// Size is how many bytes a number takes.
func Size(x uint64) int {
	// 0 has no bit that is 1, but takes one group like 1.
	return (bits.Len64(x|1) + 6) / 7
}

// Fixed is a number in four bytes.
func Fixed(x uint32) [4]byte {
	var out [4]byte
	for i := range out {
		out[i] = byte(x >> (24 - 8*i))
	}
	return out
}

// GetFixed is the number in four bytes that stands at a place, and the place behind it.
func GetFixed(b []byte, at int) (uint32, int, api.Errno) {
	if !within(b, at) {
		return 0, 0, api.ErrArg
	}
	if len(b)-at < 4 {
		return 0, 0, api.ErrShort
	}
	x := uint32(0)
	for i := range 4 {
		x = x<<8 | uint32(b[at+i])
	}
	return x, at + 4, api.OK
}

// Sum is the sum of bytes.
func Sum(b []byte) uint32 {
	c := ^uint32(0)
	for _, x := range b {
		c ^= uint32(x)
		for range 8 {
			odd := c & 1
			c = c>>1 ^ turned*odd
		}
	}
	return ^c
}
