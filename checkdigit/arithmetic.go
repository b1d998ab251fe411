package checkdigit

// quasigroup is the table of the operation of Damm: row a has a # b for all digits b.
var quasigroup = [10][10]int{
	{0, 3, 1, 7, 5, 9, 8, 6, 4, 2},
	{7, 0, 9, 2, 1, 5, 4, 8, 6, 3},
	{4, 2, 0, 6, 8, 7, 1, 3, 5, 9},
	{1, 7, 5, 0, 9, 8, 3, 4, 2, 6},
	{6, 1, 2, 3, 0, 4, 5, 9, 7, 8},
	{3, 6, 7, 4, 2, 0, 9, 5, 8, 1},
	{5, 8, 6, 9, 7, 2, 0, 1, 3, 4},
	{8, 9, 4, 5, 3, 6, 2, 0, 1, 7},
	{9, 4, 3, 8, 6, 1, 7, 2, 0, 5},
	{2, 5, 8, 1, 4, 3, 6, 7, 9, 0},
}

// permutation is the permutation of the digits of Verhoeff; its eighth power is the identity.
var permutation = [10]int{1, 5, 7, 6, 2, 8, 3, 0, 9, 4}

// digit returns the value of the digit with the index i.
func digit(s string, i int) int {
	return int(s[i] - '0')
}

// character returns the character of an alphabet whose value is v modulo the number of its characters.
func character(alphabet string, v int) string {
	v = modulo(v, len(alphabet))
	return alphabet[v : v+1]
}

// modulo returns a modulo m as a number from 0 to m - 1, also for a negative a.
func modulo(a, m int) int {
	return (a%m + m) % m
}

// sumOfDigits returns the sum of the two digits of n, which is n - 9 for those from 10 to 18.
func sumOfDigits(n int) int {
	return n/10 + n%10
}

// weightedSum returns the sum of the digits times the weights, from the right, modulo m.
func weightedSum(digits string, weights []int, m int) int {
	sum := 0
	for i := range len(digits) {
		// The weight is reduced before the product, which could overflow.
		weight := modulo(weights[i%len(weights)], m)
		sum = (sum + weight*digit(digits, len(digits)-1-i)) % m
	}
	return sum
}

// dihedral returns a * b in the group of the symmetries of a pentagon: 0 to 4 are the rotations, 5 to 9 the reflections.
func dihedral(a, b int) int {
	switch {
	case a < 5 && b < 5:
		return (a + b) % 5
	case a < 5:
		return 5 + (a+b-5)%5
	case b < 5:
		return 5 + modulo(a-b, 5)
	}
	return modulo(a-b, 5)
}

// inverse returns the element e of the group with e * c = 0; a reflection is its own inverse.
func inverse(c int) int {
	if c < 5 {
		return modulo(-c, 5)
	}
	return c
}

// permuted returns the digit that results if the permutation is applied n times to d.
func permuted(d, n int) int {
	for range n % 8 {
		d = permutation[d]
	}
	return d
}
