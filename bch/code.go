package bch

import "math/bits"

// code is a cyclic code with k data bits and a generator polynomial.
type code struct {
	k, gen int
}

// isValid reports whether there is such a code.
func (c code) isValid() bool {
	return c.k >= 1 && c.k <= 12 && c.gen >= 3 && c.gen < 1<<19 && c.gen%2 == 1
}

// degree returns the number of check bits.
func (c code) degree() int {
	return bits.Len(uint(c.gen)) - 1
}

// count returns the number of codewords.
func (c code) count() int {
	return 1 << c.k
}

// codeword returns the codeword of v.
func (c code) codeword(v int) int {
	rest := v << c.degree()
	for i := c.k - 1; i >= 0; i-- {
		if rest>>(i+c.degree()) != 0 {
			rest ^= c.gen << i
		}
	}
	return v<<c.degree() | rest
}

// distance returns the minimum distance. It is the least number of ones of a codeword other than 0, since the difference of two codewords is a codeword.
func (c code) distance() int {
	least := c.k + c.degree()
	for v := 1; v < c.count(); v++ {
		least = min(least, bits.OnesCount(uint(c.codeword(v))))
	}
	return least
}

// nearest returns the data of the first codeword that differs from a word in at most limit bits, and the number of these bits.
func (c code) nearest(word, limit int) (v, distance int, found bool) {
search:
	for v := range c.count() {
		distance := 0
		for different := word ^ c.codeword(v); different != 0; {
			if distance == limit {
				continue search
			}
			distance++
			// The lowest bit that differs is cleared.
			different &= different - 1
		}
		return v, distance, true
	}
	return 0, 0, false
}
