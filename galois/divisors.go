package galois

import "math/bits"

// maxDegree is the degree of the polynomial of the largest binary fields.
const maxDegree = 12

// degreeOf returns the degree of a polynomial over GF(2) other than 0, and -1 for 0.
func degreeOf(poly int) int {
	return bits.Len(uint(poly)) - 1
}

// multiply returns the product of two polynomials over GF(2) whose degrees are less than maxDegree.
func multiply(a, b int) int {
	product := 0
	for ; b > 0; b >>= 1 {
		if b&1 == 1 {
			product ^= a
		}
		a <<= 1
	}
	return product
}

// remainder returns the remainder of a polynomial over GF(2) divided by another one.
func remainder(a, by int) int {
	degree := degreeOf(by)
	for shift := degreeOf(a) - degree; shift >= 0; shift = degreeOf(a) - degree {
		a ^= by << shift
	}
	return a
}

// isIrreducible reports whether a polynomial over GF(2) with a degree from 1 to maxDegree is irreducible.
func isIrreducible(poly int) bool {
	// A product has a factor of at most half its degree.
	for _, p := range smallIrreducibles {
		if 2*degreeOf(p) <= degreeOf(poly) && remainder(poly, p) == 0 {
			return false
		}
	}
	return true
}

// isPrime reports whether a number from 2 to api.MaxField is a prime.
func isPrime(n int) bool {
	// A product has a factor that is at most its square root.
	for _, p := range smallPrimes {
		if p*p <= n && n%p == 0 {
			return false
		}
	}
	return true
}

// smallIrreducibles are the irreducible polynomials of the degrees up to maxDegree / 2, which suffice to find a divisor.
var smallIrreducibles = [...]int{2, 3, 7, 11, 13, 19, 25, 31, 37, 41, 47, 55, 59, 61, 67, 73, 87, 91, 97, 103, 109, 115, 117}

// smallPrimes are the primes up to the square root of api.MaxField, which suffice to find a divisor.
var smallPrimes = [...]int{2, 3, 5, 7, 11, 13, 17, 19, 23, 29, 31, 37, 41, 43, 47, 53, 59, 61}
