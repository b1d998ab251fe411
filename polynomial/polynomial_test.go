package polynomial_test

import (
	"math"
	"slices"
	"testing"

	"barscan/api"
	"barscan/polynomial"
)

// TestValid checks P5.1.
func TestValid(t *testing.T) {
	singles(func(f api.Field, p []int) {
		if !polynomial.Valid(f, p) {
			t.Errorf("Valid(%v, %v) is false", f, p)
		}
	})
	for _, f := range fields() {
		for _, p := range invalidPolynomials(f) {
			if polynomial.Valid(f, p) {
				t.Errorf("Valid(%v, %v) is true", f, p)
			}
		}
		long := make([]int, api.MaxDegree+1)
		long[api.MaxDegree] = f.Size - 1
		if !polynomial.Valid(f, long) || !polynomial.Valid(f, []int{}) || !polynomial.Valid(f, []int{0, f.Size - 1}) {
			t.Errorf("a polynomial over %v is not valid", f)
		}
	}
	for _, f := range invalidFields() {
		for _, p := range [][]int{nil, {}, {1}, {0, 1}, {-1}, {0}} {
			if polynomial.Valid(f, p) {
				t.Errorf("Valid(%v, %v) is true", f, p)
			}
		}
	}
}

// TestTrim checks P5.1.
func TestTrim(t *testing.T) {
	long := make([]int, 3*api.MaxDegree)
	long[2*api.MaxDegree] = 5
	for _, x := range []struct{ p, want []int }{
		{nil, nil},
		{[]int{}, nil},
		{[]int{0}, nil},
		{[]int{0, 0, 0}, nil},
		{[]int{1}, []int{1}},
		{[]int{1, 0}, []int{1}},
		{[]int{0, 1, 0, 2, 0, 0}, []int{0, 1, 0, 2}},
		{[]int{-1, 0}, []int{-1}},
		{[]int{math.MinInt, math.MaxInt, 0, -7, 0}, []int{math.MinInt, math.MaxInt, 0, -7}},
		{make([]int, 3*api.MaxDegree), nil},
		{long, long[:2*api.MaxDegree+1]},
	} {
		if got := polynomial.Trim(x.p); !slices.Equal(got, x.want) {
			t.Errorf("Trim(%v) = %v, want %v", x.p, got, x.want)
		}
	}
}

// TestAdd checks P5.1.
func TestAdd(t *testing.T) {
	pairs(func(f api.Field, a, b []int) {
		p, e := polynomial.Add(f, a, b)
		check(t, "Add", f, p, e, sumOf(f, a, b))
	})
	for _, f := range fields() {
		a := []int{1, 0, f.Size - 1}
		p, e := polynomial.Add(f, a, []int{opposite(f, 1), 1, 1})
		check(t, "Add", f, p, e, short([]int{0, 1, sum(f, f.Size-1, 1)}))
		p, e = polynomial.Add(f, a, []int{opposite(f, 1), 0, opposite(f, f.Size-1)})
		check(t, "Add", f, p, e, nil)
	}
}

// TestScale checks P5.1.
func TestScale(t *testing.T) {
	singles(func(f api.Field, p []int) {
		for by := 0; by < f.Size; by += 1 + f.Size/20 {
			q, e := polynomial.Scale(f, p, by)
			check(t, "Scale", f, q, e, productOf(f, p, []int{by}))
		}
	})
	for _, f := range fields() {
		p := random(newRand(), f, api.MaxDegree+1)
		q, e := polynomial.Scale(f, p, f.Size-1)
		check(t, "Scale", f, q, e, productOf(f, p, []int{f.Size - 1}))
		q, e = polynomial.Scale(f, p, 0)
		check(t, "Scale", f, q, e, nil)
	}
}

// TestDerive checks P5.1.
func TestDerive(t *testing.T) {
	singles(func(f api.Field, p []int) {
		q, e := polynomial.Derive(f, p)
		check(t, "Derive", f, q, e, derivativeOf(f, p))
	})
	q, e := polynomial.Derive(binary(2, 7), []int{0, 0, 1, 1})
	check(t, "Derive", binary(2, 7), q, e, []int{0, 0, 1})
	for _, f := range fields() {
		p := random(newRand(), f, api.MaxDegree+1)
		q, e := polynomial.Derive(f, p)
		check(t, "Derive", f, q, e, derivativeOf(f, p))
		power := make([]int, f.Char+1)
		power[f.Char] = 1
		q, e = polynomial.Derive(f, power)
		check(t, "Derive", f, q, e, nil)
		q, e = polynomial.Derive(f, []int{f.Size - 1})
		check(t, "Derive", f, q, e, nil)
	}
}

// TestMul checks P5.2.
func TestMul(t *testing.T) {
	pairs(func(f api.Field, a, b []int) {
		p, e := polynomial.Mul(f, a, b)
		check(t, "Mul", f, p, e, productOf(f, a, b))
	})
	p, e := polynomial.Mul(prime(5), []int{2, 1}, []int{3, 1})
	check(t, "Mul", prime(5), p, e, []int{1, 0, 1})
}

// TestMulLimit checks that P5.2's ErrLong comes exactly if the degree of the product is too great.
func TestMulLimit(t *testing.T) {
	r := newRand()
	for _, f := range []api.Field{binary(1, 3), binary(8, 0x11d), binary(12, 0x1069), prime(4093)} {
		for _, degree := range []int{0, 1, 2, api.MaxDegree / 2, api.MaxDegree} {
			a, b := random(r, f, degree+1), random(r, f, api.MaxDegree-degree+1)
			p, e := polynomial.Mul(f, a, b)
			check(t, "Mul", f, p, e, productOf(f, a, b))
			if degree == 0 {
				continue
			}
			b = random(r, f, len(b)+1)
			p, e = polynomial.Mul(f, a, b)
			checkError(t, "Mul", f, p, e, api.ErrLong)
			p, e = polynomial.Mul(f, b, a)
			checkError(t, "Mul", f, p, e, api.ErrLong)
		}
		long := random(r, f, api.MaxDegree+1)
		p, e := polynomial.Mul(f, long, long)
		checkError(t, "Mul", f, p, e, api.ErrLong)
		p, e = polynomial.Mul(f, long, nil)
		check(t, "Mul", f, p, e, nil)
		p, e = polynomial.Mul(f, []int{}, long)
		check(t, "Mul", f, p, e, nil)
		p, e = polynomial.Mul(f, long, []int{1})
		check(t, "Mul", f, p, e, long)
	}
}

// checkDivMod checks that DivMod returns what determines quotient and remainder.
func checkDivMod(t *testing.T, f api.Field, a, b []int) {
	t.Helper()
	q, r, e := polynomial.DivMod(f, a, b)
	if len(b) == 0 {
		if e != api.ErrZero || len(q) != 0 || len(r) != 0 {
			t.Errorf("DivMod over %v of %v by zero: %v, %v, %d", f, a, q, r, e)
		}
		return
	}
	if e != api.OK || !polynomial.Valid(f, q) || !polynomial.Valid(f, r) || len(r) >= len(b) {
		t.Fatalf("DivMod over %v of %v and %v: %v, %v, %d", f, a, b, q, r, e)
	}
	if back := sumOf(f, productOf(f, q, b), r); !slices.Equal(back, a) {
		t.Errorf("DivMod over %v of %v and %v: %v, %v, which give %v", f, a, b, q, r, back)
	}
}

// TestDivMod checks P5.2.
func TestDivMod(t *testing.T) {
	pairs(func(f api.Field, a, b []int) { checkDivMod(t, f, a, b) })
	q, r, e := polynomial.DivMod(binary(1, 3), []int{1, 0, 1}, []int{1, 1})
	check(t, "DivMod", binary(1, 3), q, e, []int{1, 1})
	check(t, "DivMod", binary(1, 3), r, e, nil)
	source := newRand()
	for _, f := range fields() {
		a := random(source, f, api.MaxDegree+1)
		for _, n := range []int{1, 2, 3, 1000, api.MaxDegree, api.MaxDegree + 1} {
			checkDivMod(t, f, a, random(source, f, n))
		}
		checkDivMod(t, f, a[:0], a)
		checkDivMod(t, f, a, nil)
		checkDivMod(t, f, nil, nil)
	}
}

// TestGCD checks P5.2, by trying all common divisors.
func TestGCD(t *testing.T) {
	for _, f := range tinyFields() {
		list := all(f, 3)
		if f.Size == 2 {
			list = all(f, 6)
		}
		for _, a := range list {
			for _, b := range list {
				p, e := polynomial.GCD(f, a, b)
				check(t, "GCD", f, p, e, greatestDivisor(t, f, a, b, list))
			}
		}
	}
	p, e := polynomial.GCD(prime(5), []int{1, 0, 1}, []int{3, 1})
	check(t, "GCD", prime(5), p, e, []int{3, 1})
}

// greatestDivisor returns the last one of the monic polynomials of a list by ascending degrees that divide both a and b, which are in the list, too.
func greatestDivisor(t *testing.T, f api.Field, a, b []int, list [][]int) []int {
	var best []int
	for _, p := range list {
		if len(p) == 0 || p[len(p)-1] != 1 || len(a) == 0 && len(b) == 0 {
			continue
		}
		if divides(t, f, p, a) && divides(t, f, p, b) {
			best = p
		}
	}
	return best
}

// divides reports whether a polynomial other than zero divides another one.
func divides(t *testing.T, f api.Field, by, p []int) bool {
	t.Helper()
	_, r, e := polynomial.DivMod(f, p, by)
	if e != api.OK {
		t.Fatalf("DivMod over %v of %v and %v: %d", f, p, by, e)
	}
	return len(r) == 0
}

// TestGCDOfProducts checks P5.2 with long polynomials that have a known divisor.
func TestGCDOfProducts(t *testing.T) {
	r := newRand()
	for _, f := range fields() {
		if f.Size < 7 {
			continue
		}
		// Polynomials without a common root, which have all their roots in the field, have only constant divisors.
		points := distinct(r, f, f.Size-1)
		third := len(points) / 3
		var parts [3][]int
		for i := range parts {
			p, e := polynomial.FromRoots(f, points[i*third:(i+1)*third])
			if e != api.OK {
				t.Fatal(e)
			}
			parts[i] = p
		}
		a := productOf(f, productOf(f, parts[0], parts[1]), []int{f.Size - 1})
		b := productOf(f, productOf(f, parts[1], parts[2]), []int{2})
		p, e := polynomial.GCD(f, a, b)
		check(t, "GCD", f, p, e, parts[1])
		p, e = polynomial.GCD(f, parts[0], parts[2])
		check(t, "GCD", f, p, e, []int{1})
		p, e = polynomial.GCD(f, nil, a)
		check(t, "GCD", f, p, e, productOf(f, parts[0], parts[1]))
		p, e = polynomial.GCD(f, a, []int{})
		check(t, "GCD", f, p, e, productOf(f, parts[0], parts[1]))
		p, e = polynomial.GCD(f, nil, nil)
		check(t, "GCD", f, p, e, nil)
		p, e = polynomial.GCD(f, a, []int{3})
		check(t, "GCD", f, p, e, []int{1})
	}
}

// TestOwnMemory checks that no function changes its arguments, and that the results share no memory with them or with each other.
func TestOwnMemory(t *testing.T) {
	f := prime(7)
	for _, a := range [][]int{nil, {1}, {3, 2, 1}, {1, 2, 3, 4, 5, 6}, {0, 0, 0, 1}} {
		for _, b := range [][]int{nil, {1}, {4, 1}, {1, 2, 3, 4, 5, 6}} {
			x, y := roomy(a), roomy(b)
			results := [][]int{polynomial.Trim(x[:len(a)])}
			keep := func(p []int, e api.Errno) { results = append(results, p) }
			keep(polynomial.Add(f, x, y))
			keep(polynomial.Scale(f, x, 1))
			keep(polynomial.Mul(f, x, y))
			q, r, e := polynomial.DivMod(f, x, y)
			keep(q, e)
			keep(r, e)
			keep(polynomial.GCD(f, x, y))
			keep(polynomial.Derive(f, x))
			keep(polynomial.FromRoots(f, x))
			keep(polynomial.Interpolate(f, x, x))
			if len(x) > 0 {
				keep(polynomial.Roots(f, x))
			}
			saved := make([][]int, len(results))
			for i, p := range results {
				saved[i] = slices.Clone(p)
			}
			for i, p := range results {
				if !slices.Equal(p, saved[i]) {
					t.Errorf("%v, %v: result %d has changed with another one", a, b, i)
				}
				p = p[:cap(p)]
				for j := range p {
					p[j] = -9
				}
			}
			if !isRoomy(x, a) || !isRoomy(y, b) {
				t.Errorf("the arguments %v and %v have changed", a, b)
			}
		}
	}
}

// roomy returns a copy of p with sevens behind its end.
func roomy(p []int) []int {
	return append(slices.Clone(p), 7, 7, 7, 7, 7, 7, 7, 7)[:len(p)]
}

// isRoomy reports whether x still is what roomy returned for p.
func isRoomy(x, p []int) bool {
	return slices.Equal(x, p) && slices.Equal(x[len(p):len(p)+8], []int{7, 7, 7, 7, 7, 7, 7, 7})
}
