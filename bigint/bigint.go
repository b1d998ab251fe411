// Package bigint is layer 2, integers of any size: see shared/doc/02-bigint.md.
package bigint

import (
	"math/bits"

	"barscan/api"
)

// Valid reports whether an integer is in normal form.
func Valid(x api.Int) bool {
	n := len(x.Mag)
	if n == 0 {
		return !x.Neg
	}
	return n <= api.MaxLimbs && x.Mag[n-1] != 0
}

// FromInt returns the integer with the value n.
func FromInt(n int) api.Int {
	size := uint64(n)
	if n < 0 {
		// Wraparound makes this right for the least int, too.
		size = -size
	}
	low := split(size)
	return api.Int{Neg: n < 0, Mag: trim(low[:])}
}

// ToInt returns the value of an integer that fits into an int.
func ToInt(x api.Int) (int, api.Errno) {
	if !Valid(x) {
		return 0, api.ErrArg
	}
	if len(x.Mag) > 2 {
		return 0, api.ErrOverflow
	}
	var low pair
	copy(low[:], x.Mag)
	size := low.join()
	if x.Neg && size <= 1<<63 {
		return int(-size), api.OK
	}
	if !x.Neg && size < 1<<63 {
		return int(size), api.OK
	}
	return 0, api.ErrOverflow
}

// Cmp returns -1, 0 or 1, as a is less than, equal to, or greater than b.
func Cmp(a, b api.Int) int {
	if !Valid(a) || !Valid(b) {
		return 0
	}
	switch {
	case a.Neg && b.Neg:
		return compare(b.Mag, a.Mag)
	case a.Neg:
		return -1
	case b.Neg:
		return 1
	}
	return compare(a.Mag, b.Mag)
}

// Neg returns -x.
func Neg(x api.Int) api.Int {
	if !Valid(x) {
		return api.Int{}
	}
	return signed(!x.Neg, clone(x.Mag))
}

// Add returns a + b.
func Add(a, b api.Int) (api.Int, api.Errno) {
	if !Valid(a) || !Valid(b) {
		return api.Int{}, api.ErrArg
	}
	return limited(sum(a, b))
}

// Sub returns a - b.
func Sub(a, b api.Int) (api.Int, api.Errno) {
	if !Valid(a) || !Valid(b) {
		return api.Int{}, api.ErrArg
	}
	return limited(sum(a, signed(!b.Neg, b.Mag)))
}

// Mul returns a * b.
func Mul(a, b api.Int) (api.Int, api.Errno) {
	if !Valid(a) || !Valid(b) {
		return api.Int{}, api.ErrArg
	}
	return limited(signed(a.Neg != b.Neg, multiply(a.Mag, b.Mag)))
}

// DivMod returns the floor of a / b, and the remainder, which has the sign of b.
func DivMod(a, b api.Int) (q, r api.Int, e api.Errno) {
	if !Valid(a) || !Valid(b) {
		return api.Int{}, api.Int{}, api.ErrArg
	}
	if len(b.Mag) == 0 {
		return api.Int{}, api.Int{}, api.ErrZero
	}
	quotient, rest := divide(a.Mag, b.Mag)
	// The quotient of the magnitudes is rounded towards 0, which is not the floor if the signs differ.
	if a.Neg != b.Neg && len(rest) > 0 {
		quotient = add(quotient, []uint32{1})
		rest = subtract(b.Mag, rest)
	}
	return signed(a.Neg != b.Neg, quotient), signed(b.Neg, rest), api.OK
}

// GCD returns the greatest common divisor, which is not negative.
func GCD(a, b api.Int) (api.Int, api.Errno) {
	if !Valid(a) || !Valid(b) {
		return api.Int{}, api.ErrArg
	}
	return signed(false, commonDivisor(a.Mag, b.Mag)), api.OK
}

// Pow returns a to the power of n.
func Pow(a api.Int, n int) (api.Int, api.Errno) {
	if !Valid(a) || n < 0 {
		return api.Int{}, api.ErrArg
	}
	neg := a.Neg && n%2 == 1
	if n > 0 && (len(a.Mag) == 0 || len(a.Mag) == 1 && a.Mag[0] == 1) {
		return signed(neg, clone(a.Mag)), api.OK
	}
	mag, e := power(a.Mag, n)
	return signed(neg, mag), e
}

// power returns the n-th power of a magnitude that is not 0 or 1, unless n is 0.
func power(a []uint32, n int) ([]uint32, api.Errno) {
	// The least base, 2, already gives n + 1 bits.
	if n >= 32*api.MaxLimbs {
		return nil, api.ErrLong
	}
	out := []uint32{1}
	// From the highest bit of the exponent on, no intermediate result is above the final one, so that one that is too large decides.
	for i := bits.Len(uint(n)) - 1; i >= 0; i-- {
		out = multiply(out, out)
		if n>>i&1 == 1 {
			out = multiply(out, a)
		}
		if len(out) > api.MaxLimbs {
			return nil, api.ErrLong
		}
	}
	return out, api.OK
}

// sum returns a + b, which may be too large.
func sum(a, b api.Int) api.Int {
	switch {
	case a.Neg == b.Neg:
		return signed(a.Neg, add(a.Mag, b.Mag))
	case compare(a.Mag, b.Mag) >= 0:
		return signed(a.Neg, subtract(a.Mag, b.Mag))
	}
	return signed(b.Neg, subtract(b.Mag, a.Mag))
}

// signed returns the integer with a magnitude and a sign, which 0 does not have.
func signed(neg bool, mag []uint32) api.Int {
	return api.Int{Neg: neg && len(mag) > 0, Mag: mag}
}

// limited returns x, unless it is too large.
func limited(x api.Int) (api.Int, api.Errno) {
	if len(x.Mag) > api.MaxLimbs {
		return api.Int{}, api.ErrLong
	}
	return x, api.OK
}
