package polynomial

import (
	"slices"

	"barscan/api"
	"barscan/galois"
)

// arithmetic calculates with elements of a valid field, and with polynomials over it.
type arithmetic struct {
	field api.Field
	// The powers of the generator are listed twice in a row, so that the sum of two logarithms is an index. Both slices are nil if products are too few for them.
	powers, logarithms []int
}

// newArithmetic returns the arithmetic for about so many products. Galois checks its arguments in every call, which tables avoid; but to fill them takes as many products as the field has elements.
func newArithmetic(f api.Field, products int) arithmetic {
	if products <= f.Size {
		return arithmetic{field: f}
	}
	generator, _ := galois.Generator(f)
	period := f.Size - 1
	powers, logarithms := make([]int, 2*period), make([]int, f.Size)
	x := 1
	for n := range period {
		powers[n], powers[n+period] = x, x
		logarithms[x] = n
		x, _ = galois.Mul(f, x, generator)
	}
	return arithmetic{f, powers, logarithms}
}

// plus returns x + y. It is here because a call of galois for each sum would take longer than all the rest, and sums are too many for a table.
func (a arithmetic) plus(x, y int) int {
	switch {
	case a.field.Char == 2:
		return x ^ y
	case x+y < a.field.Size:
		return x + y
	}
	return x + y - a.field.Size
}

// opposite returns -x.
func (a arithmetic) opposite(x int) int {
	y, _ := galois.Sub(a.field, 0, x)
	return y
}

// times returns x * y.
func (a arithmetic) times(x, y int) int {
	if x == 0 || y == 0 {
		return 0
	}
	if a.powers == nil {
		z, _ := galois.Mul(a.field, x, y)
		return z
	}
	return a.powers[a.logarithms[x]+a.logarithms[y]]
}

// inverse returns 1 / x for an element other than 0.
func (a arithmetic) inverse(x int) int {
	y, _ := galois.Inv(a.field, x)
	return y
}

// transform returns what change makes of each coefficient and its degree.
func transform[From, To any](p []From, change func(degree int, c From) To) []To {
	out := make([]To, len(p))
	for i, c := range p {
		out[i] = change(i, c)
	}
	return out
}

// add returns p + q.
func (a arithmetic) add(p, q []int) []int {
	sum := make([]int, max(len(p), len(q)))
	copy(sum, p)
	for i, c := range q {
		sum[i] = a.plus(sum[i], c)
	}
	return Trim(sum)
}

// scale returns p * by.
func (a arithmetic) scale(p []int, by int) []int {
	return Trim(transform(p, func(_, c int) int { return a.times(c, by) }))
}

// addMultiple adds p * by to sum, which has at least as many coefficients as p.
func (a arithmetic) addMultiple(sum, p []int, by int) {
	for i, c := range p {
		sum[i] = a.plus(sum[i], a.times(c, by))
	}
}

// multiply returns p * q.
func (a arithmetic) multiply(p, q []int) []int {
	if len(p) == 0 || len(q) == 0 {
		return nil
	}
	product := make([]int, len(p)+len(q)-1)
	for i, c := range p {
		a.addMultiple(product[i:], q, c)
	}
	return product
}

// multiplyAll returns the product of all factors. It halves them, so that few long polynomials are made on the way.
func (a arithmetic) multiplyAll(factors [][]int) []int {
	switch n := len(factors); n {
	case 0:
		return []int{1}
	case 1:
		return factors[0]
	default:
		return a.multiply(a.multiplyAll(factors[:n/2]), a.multiplyAll(factors[n/2:]))
	}
}

// divide returns the quotient and the remainder of p and a polynomial other than zero.
func (a arithmetic) divide(p, by []int) (quotient, rest []int) {
	rest = slices.Clone(p)
	if len(p) < len(by) {
		return nil, rest
	}
	degree := len(by) - 1
	inverse := a.inverse(by[degree])
	quotient = make([]int, len(p)-degree)
	for i := len(quotient) - 1; i >= 0; i-- {
		quotient[i] = a.times(rest[i+degree], inverse)
		a.addMultiple(rest[i:], by, a.opposite(quotient[i]))
	}
	return quotient, Trim(rest[:degree])
}

// divisor returns the greatest common divisor of p and q with the leading coefficient 1, or zero if both are zero.
func (a arithmetic) divisor(p, q []int) []int {
	for len(q) > 0 {
		_, rest := a.divide(p, q)
		p, q = q, rest
	}
	if len(p) == 0 {
		return nil
	}
	return a.scale(p, a.inverse(p[len(p)-1]))
}

// value returns the value of p at x.
func (a arithmetic) value(p []int, x int) int {
	v := 0
	for _, c := range slices.Backward(p) {
		v = a.plus(a.times(v, x), c)
	}
	return v
}

// factor returns x - r, the polynomial of degree 1 with the root r.
func (a arithmetic) factor(r int) []int {
	return []int{a.opposite(r), 1}
}

// interpolate returns the polynomial with the values ys at xs, which are all different. Each point adds a multiple of the product of x - r for all points r before it, which does not change the values there.
func (a arithmetic) interpolate(xs, ys []int) []int {
	sum, product := make([]int, len(xs)), []int{1}
	for i, x := range xs {
		missing := a.plus(ys[i], a.opposite(a.value(sum[:i], x)))
		by := a.times(missing, a.inverse(a.value(product, x)))
		a.addMultiple(sum, product, by)
		product = a.multiply(a.factor(x), product)
	}
	return Trim(sum)
}
