package bigint

import (
	"cmp"
	"math/bits"
)

// A magnitude is a slice of limbs in base 2^32, the least significant first, whose last limb is not 0. The functions of this file neither change their magnitudes nor return memory of them, unless they say so.

// pair has two neighbouring limbs of a magnitude, the less significant one first.
type pair [2]uint32

// split returns the limbs of a number.
func split(v uint64) pair {
	return pair{uint32(v), uint32(v >> 32)}
}

// join returns the number that two limbs make.
func (p pair) join() uint64 {
	return uint64(p[1])<<32 | uint64(p[0])
}

// trim returns the limbs, in the same memory, without the zeros at the end.
func trim(limbs []uint32) []uint32 {
	n := len(limbs)
	for n > 0 && limbs[n-1] == 0 {
		n--
	}
	if n == 0 {
		return nil
	}
	return limbs[:n]
}

// clone returns a copy of a magnitude.
func clone(a []uint32) []uint32 {
	if len(a) == 0 {
		return nil
	}
	out := make([]uint32, len(a))
	copy(out, a)
	return out
}

// compare returns -1, 0 or 1, as a is less than, equal to, or greater than b.
func compare(a, b []uint32) int {
	if len(a) != len(b) {
		return cmp.Compare(len(a), len(b))
	}
	for i := len(a) - 1; i >= 0; i-- {
		if a[i] != b[i] {
			return cmp.Compare(a[i], b[i])
		}
	}
	return 0
}

// add returns a + b.
func add(a, b []uint32) []uint32 {
	if len(a) < len(b) {
		a, b = b, a
	}
	out := make([]uint32, len(a)+1)
	carry := uint64(0)
	for i, limb := range a {
		carry += uint64(limb)
		if i < len(b) {
			carry += uint64(b[i])
		}
		out[i] = uint32(carry)
		carry >>= 32
	}
	out[len(a)] = uint32(carry)
	return trim(out)
}

// subtract returns a - b, where a is not less than b.
func subtract(a, b []uint32) []uint32 {
	out := make([]uint32, len(a))
	borrow := uint64(0)
	for i, limb := range a {
		v := uint64(limb) - borrow
		if i < len(b) {
			v -= uint64(b[i])
		}
		out[i] = uint32(v)
		borrow = v >> 63
	}
	return trim(out)
}

// multiply returns a * b.
func multiply(a, b []uint32) []uint32 {
	out := make([]uint32, len(a)+len(b))
	for i, x := range a {
		carry := uint64(0)
		for j, y := range b {
			carry += uint64(x)*uint64(y) + uint64(out[i+j])
			out[i+j] = uint32(carry)
			carry >>= 32
		}
		out[i+len(b)] = uint32(carry)
	}
	return trim(out)
}

// multiplyAdd changes limbs to limbs*by + plus, where by is not 0.
func multiplyAdd(limbs []uint32, by, plus uint32) []uint32 {
	carry := uint64(plus)
	for i, limb := range limbs {
		carry += uint64(limb) * uint64(by)
		limbs[i] = uint32(carry)
		carry >>= 32
	}
	if carry > 0 {
		limbs = append(limbs, uint32(carry))
	}
	return limbs
}

// divideLimb changes limbs to the quotient of them and by, which is not 0, and also returns the remainder.
func divideLimb(limbs []uint32, by uint32) ([]uint32, uint32) {
	rest := uint32(0)
	for i := len(limbs) - 1; i >= 0; i-- {
		v := pair{limbs[i], rest}.join()
		limbs[i] = uint32(v / uint64(by))
		rest = uint32(v % uint64(by))
	}
	return trim(limbs), rest
}

// divide returns the quotient and the remainder of two magnitudes, of which the second one is not 0.
func divide(a, b []uint32) (q, r []uint32) {
	if compare(a, b) < 0 {
		return nil, clone(a)
	}
	if len(b) == 1 {
		quotient, rest := divideLimb(clone(a), b[0])
		return quotient, trim([]uint32{rest})
	}
	// With the highest bit of the divisor set, a guess from its first two limbs is at most one too large.
	n := len(b)
	shift := bits.LeadingZeros32(b[n-1])
	rest := shiftLeft(a, shift)
	by := shiftLeft(b, shift)[:n]
	q = make([]uint32, len(a)-n+1)
	for i := len(q) - 1; i >= 0; i-- {
		part := rest[i : i+n+1]
		digit := guess([3]uint32{part[n-2], part[n-1], part[n]}, pair{by[n-2], by[n-1]})
		if subtractMultiple(part, by, digit) {
			digit--
			addBack(part, by)
		}
		q[i] = digit
	}
	return trim(q), trim(shiftRight(rest[:n], shift))
}

// guess returns the first limb of the quotient of two numbers, or one more, from the first limbs of both, the less significant ones first.
func guess(top [3]uint32, by pair) uint32 {
	high := pair{top[1], top[2]}.join()
	digit := high / uint64(by[1])
	rest := high % uint64(by[1])
	for digit >= 1<<32 || digit*uint64(by[0]) > (pair{top[0], uint32(rest)}).join() {
		digit--
		rest += uint64(by[1])
		if rest >= 1<<32 {
			break
		}
	}
	return uint32(digit)
}

// subtractMultiple subtracts digit*by from part, which it changes, and reports whether the result is negative. It does not write the last limb of part, because the remainder of a step of the division never needs it.
func subtractMultiple(part, by []uint32, digit uint32) bool {
	carry, borrow := uint64(0), uint64(0)
	for i, limb := range by {
		carry += uint64(limb) * uint64(digit)
		v := uint64(part[i]) - uint64(uint32(carry)) - borrow
		part[i] = uint32(v)
		borrow = v >> 63
		carry >>= 32
	}
	return uint64(part[len(by)]) < carry+borrow
}

// addBack adds by to part, which it changes, and drops what does not fit into the limbs of by.
func addBack(part, by []uint32) {
	carry := uint64(0)
	for i, limb := range by {
		carry += uint64(limb) + uint64(part[i])
		part[i] = uint32(carry)
		carry >>= 32
	}
}

// shiftLeft returns the limbs of a * 2^shift, with one limb more than a, for a shift less than 32.
func shiftLeft(a []uint32, shift int) []uint32 {
	out := make([]uint32, len(a)+1)
	for i, limb := range a {
		v := split(uint64(limb) << shift)
		out[i] |= v[0]
		out[i+1] = v[1]
	}
	return out
}

// shiftRight returns the limbs of a / 2^shift, rounded down, for a shift less than 32.
func shiftRight(a []uint32, shift int) []uint32 {
	out := make([]uint32, len(a))
	for i := range out {
		v := pair{a[i], 0}
		if i+1 < len(a) {
			v[1] = a[i+1]
		}
		out[i] = uint32(v.join() >> shift)
	}
	return out
}
