package checksum

import "barscan/api"

// Digest computes a CRC-32 piece by piece.
type Digest struct {
	made     bool // by this package
	register uint32
	length   int
}

// NewDigest returns a digest of no bytes.
func NewDigest() *Digest {
	return &Digest{made: true, register: start32}
}

// Write adds bytes.
func (d *Digest) Write(p []byte) api.Errno {
	if !d.isMade() {
		return api.ErrNil
	}
	d.register = feed32(d.register, p)
	d.length += len(p)
	return api.OK
}

// Sum returns the CRC-32 of the bytes that were added.
func (d *Digest) Sum() uint32 {
	if !d.isMade() {
		return 0
	}
	return ^d.register
}

// Len returns the number of bytes that were added.
func (d *Digest) Len() int {
	if !d.isMade() {
		return 0
	}
	return d.length
}

// Clone returns an independent copy.
func (d *Digest) Clone() *Digest {
	if !d.isMade() {
		return nil
	}
	clone := *d
	return &clone
}

// isMade reports whether the digest was created by this package.
func (d *Digest) isMade() bool {
	return d != nil && d.made
}
