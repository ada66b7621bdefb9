package octet

import (
	"slices"

	"scarab/api"
)

// Reader reads bytes from the front.
type Reader struct {
	b  []byte
	at int
}

// NewReader is a reader of bytes.
func NewReader(b []byte) *Reader { return &Reader{b: slices.Clone(b)} }

// all is what a reader reads: no bytes, where there is no reader.
func (r *Reader) all() []byte {
	if r == nil {
		return nil
	}
	return r.b
}

// Uint reads a number.
func (r *Reader) Uint() (uint64, api.Errno) {
	x, end, e := Get(r.all(), r.At())
	if e != api.OK {
		return 0, e
	}
	r.at = end
	return x, api.OK
}

// Int reads a number with a sign.
func (r *Reader) Int() (int64, api.Errno) {
	x, e := r.Uint()
	return Zag(x), e
}

// Take reads so many bytes.
func (r *Reader) Take(n int) ([]byte, api.Errno) {
	if n < 0 {
		return nil, api.ErrArg
	}
	if n > r.Left() {
		return nil, api.ErrShort
	}
	if n == 0 {
		return nil, api.OK
	}
	out := make([]byte, n)
	r.at += copy(out, r.b[r.at:])
	return out, api.OK
}

// At is where it is.
func (r *Reader) At() int {
	if r == nil {
		return 0
	}
	return r.at
}

// Left is how many bytes are left.
func (r *Reader) Left() int { return len(r.all()) - r.At() }

// End tells whether all is read.
func (r *Reader) End() api.Errno {
	if r.Left() > 0 {
		return api.ErrRest
	}
	return api.OK
}
