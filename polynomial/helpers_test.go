package polynomial_test

import (
	"math"
	"math/rand/v2"
	"slices"
	"testing"

	"barscan/api"
)

// binary returns the binary field with a polynomial.
func binary(degree, poly int) api.Field {
	return api.Field{Char: 2, Size: 1 << degree, Poly: poly}
}

// prime returns the prime field with an odd number of elements.
func prime(p int) api.Field {
	return api.Field{Char: p, Size: p}
}

// tinyFields returns fields that are so small that all short polynomials can be tried.
func tinyFields() []api.Field {
	return []api.Field{binary(1, 2), binary(1, 3), prime(3), binary(2, 7), prime(5)}
}

// fields returns all fields of the tests. In those with the polynomials 0x1f and 0x11b the generator is not 2.
func fields() []api.Field {
	return append(tinyFields(), binary(3, 11), prime(7), prime(11), binary(4, 0x13), binary(4, 0x1f), prime(31), binary(8, 0x11d), binary(8, 0x11b), prime(929), binary(12, 0x1069), prime(4093))
}

// invalidFields returns fields that are not valid, though some of the functions' other arguments would fit them.
func invalidFields() []api.Field {
	return []api.Field{
		{},
		{Char: 2, Size: 4},
		{Char: 2, Size: 4, Poly: 5},
		{Char: 2, Size: 8, Poly: 7},
		{Char: 2, Size: 8192, Poly: 0x201b},
		{Char: 2, Size: math.MaxInt, Poly: 7},
		{Char: 2, Size: math.MinInt, Poly: 7},
		{Char: 0, Size: 7},
		{Char: 9, Size: 9},
		{Char: 3, Size: 9},
		{Char: 7, Size: 7, Poly: 7},
		{Char: 4099, Size: 4099},
		{Char: -7, Size: -7},
		{Char: math.MaxInt, Size: math.MaxInt},
	}
}

// invalidPolynomials returns polynomials that are not valid over a field.
func invalidPolynomials(f api.Field) [][]int {
	long := make([]int, api.MaxDegree+2)
	long[api.MaxDegree+1] = 1
	return [][]int{{0}, {1, 0}, {0, 0, 0}, {f.Size}, {-1}, {f.Size, 1}, {-1, 1}, {1, -f.Size}, {1, math.MaxInt, 1}, {math.MinInt}, {1, 1 << 32, 0, 1}, long}
}

// notElements returns numbers that are not elements of a field.
func notElements(f api.Field) []int {
	return []int{-1, f.Size, f.Size + 1, -f.Size, math.MaxInt, math.MinInt, 1 << 32}
}

func newRand() *rand.Rand {
	return rand.New(rand.NewPCG(5, 6))
}

// random returns a polynomial with n coefficients, many of them 0.
func random(r *rand.Rand, f api.Field, n int) []int {
	p := make([]int, n)
	for i := range p {
		if r.IntN(4) > 0 {
			p[i] = r.IntN(f.Size)
		}
	}
	if n > 0 {
		p[n-1] = 1 + r.IntN(f.Size-1)
	}
	return p
}

// distinct returns n different elements.
func distinct(r *rand.Rand, f api.Field, n int) []int {
	return r.Perm(f.Size)[:n]
}

// all returns all polynomials with at most n coefficients.
func all(f api.Field, n int) [][]int {
	list := [][]int{nil}
	for count := 1; count <= n; count++ {
		p := make([]int, count)
		for next(p, f.Size) {
			if p[count-1] != 0 {
				list = append(list, slices.Clone(p))
			}
		}
	}
	return list
}

// next counts p up by one, a number with the least significant digit first, and reports whether it did not begin again with zeros.
func next(p []int, base int) bool {
	for i := range p {
		p[i]++
		if p[i] < base {
			return true
		}
		p[i] = 0
	}
	return false
}

// sum returns a + b, computed in a simple way.
func sum(f api.Field, a, b int) int {
	if f.Char == 2 {
		return a ^ b
	}
	return (a + b) % f.Size
}

// product returns a * b, computed in a simple way: a is doubled, and added for each bit of b.
func product(f api.Field, a, b int) int {
	out := 0
	for ; b > 0; b /= 2 {
		if b%2 == 1 {
			out = sum(f, out, a)
		}
		switch a *= 2; {
		case a < f.Size:
		case f.Char == 2:
			a ^= f.Poly
		default:
			a -= f.Size
		}
	}
	return out
}

// opposite returns -a, computed in a simple way.
func opposite(f api.Field, a int) int {
	if f.Char == 2 {
		return a
	}
	return (f.Size - a) % f.Size
}

// short returns p without zeros at its end.
func short(p []int) []int {
	for len(p) > 0 && p[len(p)-1] == 0 {
		p = p[:len(p)-1]
	}
	return p
}

// sumOf returns a + b, computed in a simple way.
func sumOf(f api.Field, a, b []int) []int {
	out := make([]int, max(len(a), len(b)))
	for i := range out {
		if i < len(a) {
			out[i] = sum(f, out[i], a[i])
		}
		if i < len(b) {
			out[i] = sum(f, out[i], b[i])
		}
	}
	return short(out)
}

// productOf returns a * b, computed in a simple way.
func productOf(f api.Field, a, b []int) []int {
	out := make([]int, len(a)+len(b))
	for i := range a {
		for j := range b {
			out[i+j] = sum(f, out[i+j], product(f, a[i], b[j]))
		}
	}
	return short(out)
}

// valueOf returns the value of p at x, computed in a simple way: the sum of the coefficients times the powers of x.
func valueOf(f api.Field, p []int, x int) int {
	out, power := 0, 1
	for _, c := range p {
		out = sum(f, out, product(f, c, power))
		power = product(f, power, x)
	}
	return out
}

// derivativeOf returns the derivative, computed in a simple way.
func derivativeOf(f api.Field, p []int) []int {
	var out []int
	for i, c := range p {
		n := 0
		for range i {
			n = sum(f, n, c)
		}
		if i > 0 {
			out = append(out, n)
		}
	}
	return short(out)
}

// singles calls try with short polynomials over tiny fields, and with many polynomials over the others.
func singles(try func(f api.Field, p []int)) {
	pairs(func(f api.Field, a, b []int) {
		if len(b) == 0 {
			try(f, a)
		}
	})
}

// pairs calls try with all pairs of short polynomials over tiny fields, and with many pairs of polynomials over all fields; each of them also comes with zero.
func pairs(try func(f api.Field, a, b []int)) {
	for _, f := range tinyFields() {
		list := all(f, 3)
		if f.Size == 2 {
			list = all(f, 5)
		}
		for _, a := range list {
			for _, b := range list {
				try(f, a, b)
			}
		}
	}
	r := newRand()
	for _, f := range fields() {
		for range 60 {
			a, b := random(r, f, r.IntN(40)), random(r, f, r.IntN(15))
			try(f, a, b)
			try(f, b, a)
			try(f, a, nil)
			try(f, nil, a)
		}
		a, b := random(r, f, 150), random(r, f, 70)
		try(f, a, b)
		try(f, a, nil)
	}
}

// check checks the result of a call: a polynomial or a list of elements.
func check(t *testing.T, name string, f api.Field, got []int, e api.Errno, want []int) {
	t.Helper()
	if !slices.Equal(got, want) || e != api.OK {
		t.Errorf("%s over %v: %v, %d; want %v", name, f, got, e, want)
	}
}

// checkError checks that an error has come, and no polynomial.
func checkError(t *testing.T, name string, f api.Field, got []int, e, want api.Errno) {
	t.Helper()
	if len(got) != 0 || e != want {
		t.Errorf("%s over %v: %d numbers, %d; want error %d", name, f, len(got), e, want)
	}
}
