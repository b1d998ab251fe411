package bits

import (
	"slices"

	"barscan/api"
)

// Reader reads numbers from a bit string.
type Reader struct {
	remaining
	made bool // distinguishes a reader that NewReader returned from a zero value
}

// remaining holds the bits that have not been read.
type remaining struct {
	rest []bool
}

// NewReader returns a reader of a copy of the bits.
func NewReader(b []bool) *Reader {
	return &Reader{remaining: remaining{rest: slices.Clone(b)}, made: true}
}

// Take reads the next n bits.
func (r *Reader) Take(n int) (int, api.Errno) {
	if r == nil || !r.made {
		return 0, api.ErrNil
	}
	return r.read(n)
}

// Left returns the number of bits that have not been read.
func (r *Reader) Left() int {
	if r == nil || !r.made {
		return 0
	}
	return r.count()
}

// read removes the first n bits and returns their number; with an error none is removed.
func (m *remaining) read(n int) (int, api.Errno) {
	v, e := Take(m.rest, 0, n)
	if e != api.OK {
		return 0, e
	}
	m.rest = m.rest[n:]
	return v, api.OK
}

// count returns the number of the bits.
func (m *remaining) count() int {
	return len(m.rest)
}
