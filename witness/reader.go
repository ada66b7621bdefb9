package witness

import (
	"bytes"
	"math"

	"scarab/api"
	"scarab/octet"
)

const (
	magic    = "scaw" // how a witness's bytes begin
	sumBytes = 4      // bytes of a sum: of the program's behind these, and of all that is ahead at the end
	first    = len(magic) + sumBytes
)

// fixed is a sum in bytes.
func fixed(sum uint32) []byte {
	b := octet.Fixed(sum)
	return b[:]
}

// unfit is what is wrong with bytes, and where, if their numbers are not looked at.
func unfit(b []byte) (api.Errno, int) {
	end := len(b) - sumBytes
	switch {
	case len(b) > api.MaxBytes:
		return api.ErrLong, 0
	case !bytes.HasPrefix(b, []byte(magic)):
		return api.ErrMagic, 0
	case end < first:
		return api.ErrShort, len(b)
	case !bytes.Equal(b[end:], fixed(octet.Sum(b[:end]))):
		return api.ErrSum, end
	}
	return api.OK, 0
}

// reader reads the numbers of a witness.
type reader struct {
	in *octet.Reader
	w  api.Witness
	at int // where, among the numbers, what was read last begins
}

// readerOf is a reader of bytes that are fit.
func readerOf(b []byte) *reader {
	r := &reader{in: octet.NewReader(b[first : len(b)-sumBytes])}
	r.w.Sum, _, _ = octet.GetFixed(b, len(magic))
	return r
}

// place is where, among all bytes, what was read last begins.
func (r *reader) place() int { return first + r.at }

// each reads numbers, one behind the other.
func (r *reader) each(l ...number) api.Errno {
	for _, n := range l {
		r.at = r.in.At()
		x, e := r.in.Uint()
		if e != api.OK {
			return e
		}
		*n.at = int(min(x, math.MaxInt))
		if !n.fits() {
			return api.ErrArg
		}
	}
	return api.OK
}

// head reads what stands ahead of the picks.
func (r *reader) head() api.Errno { return r.each(headOf(&r.w)...) }

// picks reads how many picks there are, and each of them.
func (r *reader) picks() api.Errno {
	many := 0
	if e := r.each(countOf(&many)); e != api.OK {
		return e
	}
	for range many {
		var pick api.Pick
		if e := r.each(pairOf(&pick)...); e != api.OK {
			return e
		}
		r.w.Picks = append(r.w.Picks, pick)
	}
	return api.OK
}

// end sees that nothing is left.
func (r *reader) end() api.Errno {
	r.at = r.in.At()
	return r.in.End()
}
