package bigint

import "math/bits"

// commonDivisor returns the greatest common divisor of two magnitudes.
func commonDivisor(a, b []uint32) []uint32 {
	x, y := a, b
	if compare(x, y) < 0 {
		x, y = y, x
	}
	for len(y) > 2 {
		x, y = reduce(x, y)
	}
	if len(y) == 0 {
		return clone(x)
	}
	_, rest := divide(x, y)
	small := split(smallDivisor(lowPair(y).join(), lowPair(rest).join()))
	return trim(small[:])
}

// smallDivisor returns the greatest common divisor of two numbers.
func smallDivisor(x, y uint64) uint64 {
	for y != 0 {
		x, y = y, x%y
	}
	return x
}

// reduce does some steps of Euclid's algorithm at once (Lehmer's method): those that the first 64 bits of x and y determine, or a single one by division. x is not less than y, and y has more than two limbs.
func reduce(x, y []uint32) ([]uint32, []uint32) {
	shift := bits.LeadingZeros32(x[len(x)-1])
	s := simulate(window(x, len(x), shift), window(y, len(x), shift))
	switch {
	case s.count == 0:
		_, rest := divide(x, y)
		return y, rest
	case s.count%2 == 0:
		return difference(s.x[0], x, s.y[0], y), difference(s.y[1], y, s.x[1], x)
	}
	return difference(s.y[0], y, s.x[0], x), difference(s.x[1], x, s.y[1], y)
}

// window returns the 64 bits of a magnitude that begin shift bits below the top of the limb with index n-1, for n from 3 on.
func window(a []uint32, n, shift int) uint64 {
	return pair{limbAt(a, n-2), limbAt(a, n-1)}.join()<<shift | uint64(limbAt(a, n-3))>>(32-shift)
}

// limbAt returns a limb of a magnitude, which is 0 behind its end.
func limbAt(a []uint32, i int) uint32 {
	if i < len(a) {
		return a[i]
	}
	return 0
}

// lowPair returns the two low limbs of a magnitude.
func lowPair(a []uint32) pair {
	return pair{limbAt(a, 0), limbAt(a, 1)}
}

// steps are some steps of Euclid's algorithm. After an even number of them, x and y have become x[0]*x - y[0]*y and y[1]*y - x[1]*x; after an odd number, the negatives of these. All factors are less than 2^32.
type steps struct {
	x, y  [2]uint64
	count int
}

// simulate returns the steps that are the same for all numbers that begin with the bits x and y, where x is not less than y.
func simulate(x, y uint64) steps {
	s := steps{x: [2]uint64{1, 0}, y: [2]uint64{0, 1}}
	for y != 0 {
		q := x / y
		next := steps{
			x:     [2]uint64{s.x[1], s.x[0] + q*s.x[1]},
			y:     [2]uint64{s.y[1], s.y[0] + q*s.y[1]},
			count: s.count + 1,
		}
		x, y = y, x%y
		// Collins' condition: otherwise the quotient could depend on the bits that follow.
		if y < next.y[1] || x-y < next.y[0]+next.y[1] {
			break
		}
		s = next
	}
	return s
}

// difference returns a*x - b*y, which must not be negative, and not longer than x and y.
func difference(a uint64, x []uint32, b uint64, y []uint32) []uint32 {
	out := make([]uint32, max(len(x), len(y)))
	plus, minus, borrow := uint64(0), uint64(0), uint64(0)
	for i := range out {
		plus += a * uint64(limbAt(x, i))
		minus += b * uint64(limbAt(y, i))
		v := uint64(uint32(plus)) - uint64(uint32(minus)) - borrow
		out[i] = uint32(v)
		borrow = v >> 63
		plus >>= 32
		minus >>= 32
	}
	return trim(out)
}
