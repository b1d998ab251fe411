package polynomial_test

import (
	"slices"
	"testing"

	"barscan/api"
	"barscan/polynomial"
)

// checkEval checks a value.
func checkEval(t *testing.T, f api.Field, p []int, x int) {
	t.Helper()
	v, e := polynomial.Eval(f, p, x)
	if want := valueOf(f, p, x); v != want || e != api.OK {
		t.Errorf("Eval over %v of %v at %d: %d, %d; want %d", f, p, x, v, e, want)
	}
}

// TestEval checks P5.3.
func TestEval(t *testing.T) {
	singles(func(f api.Field, p []int) {
		for x := 0; x < f.Size; x += 1 + f.Size/20 {
			checkEval(t, f, p, x)
		}
	})
	for _, f := range fields() {
		p := random(newRand(), f, api.MaxDegree+1)
		for _, x := range []int{0, 1, f.Size - 1} {
			checkEval(t, f, p, x)
			checkEval(t, f, nil, x)
		}
	}
}

// zerosOf returns the elements at which p has the value 0, computed in a simple way.
func zerosOf(f api.Field, p []int) []int {
	var out []int
	for x := range f.Size {
		if valueOf(f, p, x) == 0 {
			out = append(out, x)
		}
	}
	return out
}

// TestRoots checks P5.3.
func TestRoots(t *testing.T) {
	singles(func(f api.Field, p []int) {
		if f.Size > 256 && len(p) > 10 {
			return
		}
		roots, e := polynomial.Roots(f, p)
		if len(p) == 0 {
			checkError(t, "Roots", f, roots, e, api.ErrZero)
			return
		}
		check(t, "Roots", f, roots, e, zerosOf(f, p))
	})
	roots, e := polynomial.Roots(prime(5), []int{1, 0, 1})
	check(t, "Roots", prime(5), roots, e, []int{2, 3})
	for _, f := range fields() {
		// x^Size - x has the value 0 everywhere.
		p := make([]int, f.Size+1)
		p[1], p[f.Size] = opposite(f, 1), 1
		roots, e := polynomial.Roots(f, p)
		if e != api.OK || len(roots) != f.Size || !slices.IsSorted(roots) || roots[0] != 0 || roots[f.Size-1] != f.Size-1 {
			t.Errorf("Roots over %v of a polynomial with the value 0: %d roots, %d", f, len(roots), e)
		}
		p[0] = 1
		roots, e = polynomial.Roots(f, p)
		check(t, "Roots", f, roots, e, nil)
		roots, e = polynomial.Roots(f, []int{f.Size - 1})
		check(t, "Roots", f, roots, e, nil)
		roots, e = polynomial.Roots(f, []int{0, 0, 1})
		check(t, "Roots", f, roots, e, []int{0})
	}
}

// fromRootsOf returns the product of x - r for all roots r, computed in a simple way.
func fromRootsOf(f api.Field, roots []int) []int {
	p := []int{1}
	for _, r := range roots {
		p = productOf(f, p, []int{opposite(f, r), 1})
	}
	return p
}

// TestFromRoots checks P5.3.
func TestFromRoots(t *testing.T) {
	r := newRand()
	for _, f := range fields() {
		for n := range 25 {
			roots := make([]int, n)
			for i := range roots {
				roots[i] = r.IntN(f.Size)
			}
			p, e := polynomial.FromRoots(f, roots)
			check(t, "FromRoots", f, p, e, fromRootsOf(f, roots))
		}
		p, e := polynomial.FromRoots(f, []int{1, 1, 0})
		check(t, "FromRoots", f, p, e, []int{0, 1, opposite(f, sum(f, 1, 1)), 1})
	}
}

// TestFromRootsLimit checks that P5.3's ErrLong comes exactly if there are more than MaxDegree numbers, and only if all are elements.
func TestFromRootsLimit(t *testing.T) {
	for _, f := range fields() {
		roots := make([]int, api.MaxDegree+1)
		for i := range roots {
			roots[i] = i % f.Size
		}
		p, e := polynomial.FromRoots(f, roots)
		checkError(t, "FromRoots", f, p, e, api.ErrLong)
		roots[api.MaxDegree] = f.Size
		p, e = polynomial.FromRoots(f, roots)
		checkError(t, "FromRoots", f, p, e, api.ErrArg)
		p, e = polynomial.FromRoots(f, roots[:api.MaxDegree])
		if e != api.OK || len(p) != api.MaxDegree+1 || p[api.MaxDegree] != 1 || !polynomial.Valid(f, p) {
			t.Errorf("FromRoots over %v of MaxDegree numbers: %d coefficients, %d", f, len(p), e)
		}
		if f.Size == api.MaxField {
			// The product of x - r for all elements r is x^Size - x.
			want := make([]int, f.Size+1)
			want[1], want[f.Size] = 1, 1
			check(t, "FromRoots", f, p, e, want)
		}
	}
}

// checkInterpolate checks that Interpolate returns what determines the polynomial.
func checkInterpolate(t *testing.T, f api.Field, xs, ys []int) {
	t.Helper()
	p, e := polynomial.Interpolate(f, xs, ys)
	if e != api.OK || !polynomial.Valid(f, p) || len(p) > len(xs) {
		t.Fatalf("Interpolate over %v of %v and %v: %v, %d", f, xs, ys, p, e)
	}
	for i, x := range xs {
		if v := valueOf(f, p, x); v != ys[i] {
			t.Fatalf("Interpolate over %v of %v and %v: %v has the value %d at %d", f, xs, ys, p, v, x)
		}
	}
}

// TestInterpolate checks P5.3.
func TestInterpolate(t *testing.T) {
	r := newRand()
	for _, f := range fields() {
		for n := range min(f.Size, 40) + 1 {
			xs, ys := distinct(r, f, n), make([]int, n)
			checkInterpolate(t, f, xs, ys)
			for i := range ys {
				ys[i] = r.IntN(f.Size)
			}
			checkInterpolate(t, f, xs, ys)
		}
	}
	p, e := polynomial.Interpolate(prime(7), []int{0, 1, 2}, []int{1, 2, 4})
	check(t, "Interpolate", prime(7), p, e, []int{1, 4, 4})
	p, e = polynomial.Interpolate(prime(7), nil, []int{})
	check(t, "Interpolate", prime(7), p, e, nil)
}

// TestInterpolateErrors checks the errors of P5.3's Interpolate, and their order.
func TestInterpolateErrors(t *testing.T) {
	for _, f := range fields() {
		for _, bad := range notElements(f) {
			for _, x := range []struct{ xs, ys []int }{
				{[]int{bad}, []int{0}},
				{[]int{0}, []int{bad}},
				{[]int{bad}, nil},
				{nil, []int{bad}},
				{[]int{0, 0, bad}, []int{0, 0, 0}},
				{[]int{0, 0}, []int{0, 0, bad}},
			} {
				p, e := polynomial.Interpolate(f, x.xs, x.ys)
				checkError(t, "Interpolate", f, p, e, api.ErrArg)
			}
		}
		many := make([]int, f.Size+1)
		for i := range f.Size {
			many[i] = i
		}
		for _, x := range []struct {
			xs, ys []int
			want   api.Errno
		}{
			{[]int{0}, nil, api.ErrLength},
			{nil, []int{0}, api.ErrLength},
			{[]int{0, 0}, []int{0}, api.ErrLength},
			{many, many[1:], api.ErrLength},
			{[]int{0, 0}, []int{1, 1}, api.ErrTwice},
			{[]int{0, 0}, []int{0, 1}, api.ErrTwice},
			{[]int{0, 1, 0}, []int{1, 1, 0}, api.ErrTwice},
			{many, many, api.ErrTwice},
		} {
			p, e := polynomial.Interpolate(f, x.xs, x.ys)
			checkError(t, "Interpolate", f, p, e, x.want)
		}
	}
}

// TestErrors checks that ErrArg comes for invalid fields, polynomials and elements, before all other errors.
func TestErrors(t *testing.T) {
	for _, f := range invalidFields() {
		checkInvalid(t, f, nil, nil, 0)
		checkInvalid(t, f, []int{1}, []int{1}, 1)
		checkInvalid(t, f, []int{0, 1}, nil, 0)
		p, e := polynomial.FromRoots(f, nil)
		checkError(t, "FromRoots", f, p, e, api.ErrArg)
		p, e = polynomial.FromRoots(f, make([]int, api.MaxDegree+1))
		checkError(t, "FromRoots", f, p, e, api.ErrArg)
		p, e = polynomial.Interpolate(f, nil, nil)
		checkError(t, "Interpolate", f, p, e, api.ErrArg)
		p, e = polynomial.Interpolate(f, []int{0}, nil)
		checkError(t, "Interpolate", f, p, e, api.ErrArg)
		p, e = polynomial.Interpolate(f, []int{0, 0}, []int{0, 0})
		checkError(t, "Interpolate", f, p, e, api.ErrArg)
	}
	for _, f := range fields() {
		for _, p := range invalidPolynomials(f) {
			checkInvalid(t, f, p, nil, 0)
			checkInvalid(t, f, p, []int{0, 1}, 1)
			checkInvalid(t, f, p, p, 1)
			checkInvalidPair(t, f, nil, p)
			checkInvalidPair(t, f, []int{1}, p)
		}
		for _, bad := range notElements(f) {
			for _, p := range [][]int{nil, {1}, {0, 1}} {
				checkInvalidElement(t, f, p, bad)
			}
			q, e := polynomial.FromRoots(f, []int{bad})
			checkError(t, "FromRoots", f, q, e, api.ErrArg)
			q, e = polynomial.FromRoots(f, []int{0, 1, bad, 1})
			checkError(t, "FromRoots", f, q, e, api.ErrArg)
		}
	}
}

// checkInvalid checks that every function of polynomials returns ErrArg for an invalid polynomial p.
func checkInvalid(t *testing.T, f api.Field, p, other []int, x int) {
	t.Helper()
	checkInvalidPair(t, f, p, other)
	checkInvalidElement(t, f, p, x)
	q, e := polynomial.Derive(f, p)
	checkError(t, "Derive", f, q, e, api.ErrArg)
	q, e = polynomial.Roots(f, p)
	checkError(t, "Roots", f, q, e, api.ErrArg)
}

// checkInvalidPair checks that the functions of two polynomials return ErrArg.
func checkInvalidPair(t *testing.T, f api.Field, a, b []int) {
	t.Helper()
	p, e := polynomial.Add(f, a, b)
	checkError(t, "Add", f, p, e, api.ErrArg)
	p, e = polynomial.Mul(f, a, b)
	checkError(t, "Mul", f, p, e, api.ErrArg)
	p, e = polynomial.GCD(f, a, b)
	checkError(t, "GCD", f, p, e, api.ErrArg)
	q, r, e := polynomial.DivMod(f, a, b)
	checkError(t, "DivMod", f, q, e, api.ErrArg)
	checkError(t, "DivMod", f, r, e, api.ErrArg)
}

// checkInvalidElement checks that the functions of a polynomial and a number return ErrArg.
func checkInvalidElement(t *testing.T, f api.Field, p []int, x int) {
	t.Helper()
	q, e := polynomial.Scale(f, p, x)
	checkError(t, "Scale", f, q, e, api.ErrArg)
	v, e := polynomial.Eval(f, p, x)
	if v != 0 || e != api.ErrArg {
		t.Errorf("Eval over %v of %d coefficients at %d: %d, %d", f, len(p), x, v, e)
	}
}
