package reedsolomon

import (
	"slices"

	"barscan/api"
	"barscan/galois"
)

// tables are the powers of the generator of a field and their exponents. A word takes up to millions of products, which a table finds faster than galois, since galois checks its arguments each time.
type tables struct {
	field api.Field
	// The powers are listed twice in a row, so that the sum of two exponents is an index.
	powers    []int
	exponents []int
}

// newTables returns the tables of a valid field.
func newTables(f api.Field) tables {
	generator, _ := galois.Generator(f)
	exponents := make([]int, f.Size)
	powers := []int{1}
	for n := 1; n < f.Size-1; n++ {
		x, _ := galois.Mul(f, powers[n-1], generator)
		powers, exponents[x] = append(powers, x), n
	}
	return tables{f, slices.Concat(powers, powers), exponents}
}

// period returns the number of different powers.
func (t tables) period() int {
	return t.field.Size - 1
}

// power returns the generator to the power of n, which may be negative.
func (t tables) power(n int) int {
	return t.powers[n%t.period()+t.period()]
}

// plus returns x + y.
func (t tables) plus(x, y int) int {
	switch {
	case t.field.Char == 2:
		return x ^ y
	case x+y < t.field.Size:
		return x + y
	}
	return x + y - t.field.Size
}

// minus returns x - y.
func (t tables) minus(x, y int) int {
	if t.field.Char == 2 {
		return x ^ y
	}
	return t.plus(x, t.field.Size-y)
}

// times returns x * y.
func (t tables) times(x, y int) int {
	if x == 0 || y == 0 {
		return 0
	}
	return t.powers[t.exponents[x]+t.exponents[y]]
}

// over returns x / y for a y other than 0.
func (t tables) over(x, y int) int {
	return t.times(x, t.power(-t.exponents[y]))
}

// value returns the value of a polynomial, coefficients by ascending degree, at x.
func (t tables) value(p []int, x int) int {
	v := 0
	for _, c := range slices.Backward(p) {
		v = t.plus(t.times(v, x), c)
	}
	return v
}

// product returns the coefficients of p * q with a degree less than count.
func (t tables) product(p, q []int, count int) []int {
	out := make([]int, count)
	for i, x := range p {
		for j := 0; j < len(q) && i+j < count; j++ {
			out[i+j] = t.plus(out[i+j], t.times(x, q[j]))
		}
	}
	return out
}

// roots returns the roots of a code.
func (t tables) roots(c api.Code) []int {
	out := make([]int, c.Parity)
	for i := range out {
		out[i] = t.power(c.First + i)
	}
	return out
}

// syndromes returns the values of a word at the roots of a code.
func (t tables) syndromes(c api.Code, word []int) []int {
	p, out := reversed(word), t.roots(c)
	for i, root := range out {
		out[i] = t.value(p, root)
	}
	return out
}
