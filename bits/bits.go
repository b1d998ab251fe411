// Package bits is layer 1, bit strings: see shared/doc/01-bits.md.
package bits

import "barscan/api"

// maxSize is the greatest number of bits of a number: every number of so many bits is an int that is not negative.
const maxSize = 62

// Append returns b followed by the n low bits of v, the most significant first.
func Append(b []bool, v, n int) ([]bool, api.Errno) {
	if n < 0 || n > maxSize {
		return nil, api.ErrRange
	}
	if len(b) > api.MaxBits-n {
		return nil, api.ErrLong
	}
	// The bits are copied, because the caller's slice may have room behind its end, which is not ours to write to.
	out := make([]bool, len(b), len(b)+n)
	copy(out, b)
	return appendLow(out, v, n), api.OK
}

// Take returns the number of the n bits from index at on.
func Take(b []bool, at, n int) (int, api.Errno) {
	if n < 0 || n > maxSize || at < 0 || at > len(b) {
		return 0, api.ErrRange
	}
	if n > len(b)-at {
		return 0, api.ErrTruncated
	}
	return number(b[at : at+n]), api.OK
}

// Bytes returns the numbers of each eight bits; the last byte is filled with zeros.
func Bytes(b []bool) []byte {
	out := make([]byte, 0, (len(b)+7)/8)
	for at := 0; at < len(b); at += 8 {
		out = append(out, byte(firstNumber(b[at:], 8, false)))
	}
	return out
}

// FromBytes returns the first n bits of the bytes, the most significant bit of each byte first.
func FromBytes(p []byte, n int) ([]bool, api.Errno) {
	if n < 0 {
		return nil, api.ErrRange
	}
	if n > api.MaxBits {
		return nil, api.ErrLong
	}
	if len(p) < (n+7)/8 {
		return nil, api.ErrTruncated
	}
	out := make([]bool, n)
	for i := range out {
		out[i] = p[i/8]>>(7-i%8)&1 == 1
	}
	return out, api.OK
}

// Format returns the bits as characters 0 and 1.
func Format(b []bool) string {
	out := make([]byte, len(b))
	for i, bit := range b {
		out[i] = '0'
		if bit {
			out[i] = '1'
		}
	}
	return string(out)
}

// Parse returns the bits that the characters 0 and 1 describe.
func Parse(s string) ([]bool, api.Errno) {
	if len(s) > api.MaxBits {
		return nil, api.ErrLong
	}
	out := make([]bool, len(s))
	for i := range out {
		if s[i] != '0' && s[i] != '1' {
			return nil, api.ErrChar
		}
		out[i] = s[i] == '1'
	}
	return out, api.OK
}

// Weight returns the number of ones.
func Weight(b []bool) int {
	n := 0
	for _, bit := range b {
		if bit {
			n++
		}
	}
	return n
}

// Distance returns the number of indexes at which two bit strings of the same length differ.
func Distance(a, b []bool) (int, api.Errno) {
	if len(a) != len(b) {
		return 0, api.ErrLength
	}
	n := 0
	for i := range a {
		if a[i] != b[i] {
			n++
		}
	}
	return n, api.OK
}

// Words returns the numbers of each size bits; the last one is filled with the bit fill.
func Words(b []bool, size int, fill bool) ([]int, api.Errno) {
	if size < 1 || size > maxSize {
		return nil, api.ErrRange
	}
	out := make([]int, 0, (len(b)+size-1)/size)
	for at := 0; at < len(b); at += size {
		out = append(out, firstNumber(b[at:], size, fill))
	}
	return out, api.OK
}

// FromWords returns the bits of numbers of size bits each.
func FromWords(l []int, size int) ([]bool, api.Errno) {
	if size < 1 || size > maxSize {
		return nil, api.ErrRange
	}
	// Dividing the limit cannot overflow, as multiplying the length could.
	if len(l) > api.MaxBits/size {
		return nil, api.ErrLong
	}
	out := make([]bool, 0, len(l)*size)
	for _, w := range l {
		if w < 0 || w >= 1<<size {
			return nil, api.ErrRange
		}
		out = appendLow(out, w, size)
	}
	return out, api.OK
}

// appendLow appends the n low bits of v to a slice that belongs to this package.
func appendLow(b []bool, v, n int) []bool {
	for i := n - 1; i >= 0; i-- {
		b = append(b, v>>i&1 == 1)
	}
	return b
}

// number returns the number of at most maxSize bits.
func number(b []bool) int {
	v := 0
	for _, bit := range b {
		v = next(v, bit)
	}
	return v
}

// firstNumber returns the number of the first size bits of b, with bits fill behind its end.
func firstNumber(b []bool, size int, fill bool) int {
	v := number(b[:min(size, len(b))])
	for range size - len(b) {
		v = next(v, fill)
	}
	return v
}

// next returns the number that v becomes when one more bit is read.
func next(v int, bit bool) int {
	if bit {
		return 2*v + 1
	}
	return 2 * v
}
