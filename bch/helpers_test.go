package bch_test

import (
	"math"
	"math/bits"
	"math/rand/v2"
	"testing"

	"barscan/api"
	"barscan/bch"
)

// code is a code of the tests: k data bits and a generator polynomial.
type code struct {
	k, gen int
}

func (c code) degree() int {
	return bits.Len(uint(c.gen)) - 1
}

// length returns the number of bits of a word.
func (c code) length() int {
	return c.k + c.degree()
}

// product returns the product of two polynomials over GF(2).
func product(a, b int) int {
	out := 0
	for i := range bits.Len(uint(b)) {
		if b>>i&1 == 1 {
			out ^= a << i
		}
	}
	return out
}

// codewords returns the codewords of all data, computed in a simple way: all multiples of the generator polynomial are sorted by their upper bits.
func (c code) codewords() []int {
	list := make([]int, 1<<c.k)
	for by := range list {
		word := product(c.gen, by)
		list[word>>c.degree()] = word
	}
	return list
}

// distance returns the number of bits in which two words differ.
func distance(a, b int) int {
	return bits.OnesCount(uint(a ^ b))
}

// leastDistance returns the least distance of two different words of a list.
func leastDistance(list []int) int {
	least := 100
	for i, a := range list {
		for _, b := range list[:i] {
			least = min(least, distance(a, b))
		}
	}
	return least
}

// smallCodes returns codes that are so small that all words can be tried.
func smallCodes() []code {
	var list []code
	for k := 1; k <= 4; k++ {
		for gen := 3; gen < 128; gen += 2 {
			list = append(list, code{k, gen})
		}
	}
	return list
}

// largeCodes returns the codes of QR codes, some that are known, and those at the limits.
func largeCodes() []code {
	list := []code{{5, 0x537}, {6, 0x1f25}, {12, 0xae3}, {11, 0x1f25}, {4, 11}, {12, 3}, {1, 1<<19 - 1}, {12, 1<<19 - 1}, {12, 1<<18 + 1}, {11, 0x49797}, {1, 1<<18 + 1}, {7, 0x1d1}, {12, 17}}
	r := newRand()
	for range 15 {
		list = append(list, code{1 + r.IntN(9), 1 + 2*(1+r.IntN(1<<18-1))})
	}
	return list
}

// invalidCodes returns codes that do not exist.
func invalidCodes() []code {
	var list []code
	for _, k := range []int{0, 13, -1, 14, 62, 64, 1 << 32, math.MaxInt, math.MinInt} {
		list = append(list, code{k, 7}, code{k, 0x537}, code{k, 2})
	}
	for _, gen := range []int{0, 1, 2, 4, 6, 0x536, 1<<19 - 2, 1 << 19, 1<<19 + 1, -1, -3, -7, 1<<32 + 7, math.MaxInt, math.MinInt} {
		list = append(list, code{1, gen}, code{5, gen}, code{12, gen})
	}
	return list
}

// outside returns numbers that are not from 0 to limit - 1.
func outside(limit int) []int {
	return []int{-1, limit, limit + 1, -limit, 1 << 40, 1 << 62, math.MaxInt, math.MinInt}
}

func newRand() *rand.Rand {
	return rand.New(rand.NewPCG(7, 8))
}

// flipped returns a word of some bits with n bits changed.
func flipped(r *rand.Rand, word, length, n int) int {
	for _, i := range r.Perm(length)[:n] {
		word ^= 1 << i
	}
	return word
}

// encode returns the codeword of v.
func (c code) encode(t *testing.T, v int) int {
	t.Helper()
	word, e := bch.Encode(v, c.k, c.gen)
	if e != api.OK {
		t.Fatalf("Encode(%d, %d, %#x): %d", v, c.k, c.gen, e)
	}
	return word
}

// capacity returns the number of bits that can be corrected.
func (c code) capacity(t *testing.T) int {
	t.Helper()
	d, e := bch.Distance(c.k, c.gen)
	if e != api.OK {
		t.Fatalf("Distance(%d, %#x): %d", c.k, c.gen, e)
	}
	return (d - 1) / 2
}
