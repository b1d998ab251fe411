package polynomial_test

import (
	"math/rand/v2"
	"slices"
	"testing"

	"barscan/api"
	"barscan/polynomial"
)

// laws calls functions that must not fail.
type laws struct {
	t *testing.T
	f api.Field
}

// ok returns a polynomial that a call has returned without an error.
func (l laws) ok(p []int, e api.Errno) []int {
	l.t.Helper()
	if e != api.OK || !polynomial.Valid(l.f, p) {
		l.t.Fatalf("over %v: %v, %d", l.f, p, e)
	}
	return p
}

func (l laws) add(a, b []int) []int {
	l.t.Helper()
	return l.ok(polynomial.Add(l.f, a, b))
}

func (l laws) mul(a, b []int) []int {
	l.t.Helper()
	return l.ok(polynomial.Mul(l.f, a, b))
}

func (l laws) derive(p []int) []int {
	l.t.Helper()
	return l.ok(polynomial.Derive(l.f, p))
}

func (l laws) scale(p []int, by int) []int {
	l.t.Helper()
	return l.ok(polynomial.Scale(l.f, p, by))
}

func (l laws) divisor(a, b []int) []int {
	l.t.Helper()
	return l.ok(polynomial.GCD(l.f, a, b))
}

func (l laws) value(p []int, x int) int {
	l.t.Helper()
	v, e := polynomial.Eval(l.f, p, x)
	if e != api.OK {
		l.t.Fatalf("Eval over %v: %d", l.f, e)
	}
	return v
}

func (l laws) rest(a, b []int) []int {
	l.t.Helper()
	_, r, e := polynomial.DivMod(l.f, a, b)
	return l.ok(r, e)
}

// equal checks that two polynomials are equal.
func (l laws) equal(law string, a, b []int) {
	l.t.Helper()
	if !slices.Equal(a, b) {
		l.t.Errorf("%s over %v: %v and %v", law, l.f, a, b)
	}
}

// triples calls try with triples of polynomials over all fields.
func triples(t *testing.T, try func(l laws, a, b, c []int, r *rand.Rand)) {
	r := newRand()
	for _, f := range fields() {
		for range 120 {
			try(laws{t, f}, random(r, f, r.IntN(12)), random(r, f, r.IntN(12)), random(r, f, r.IntN(12)), r)
		}
	}
	for _, f := range []api.Field{binary(1, 3), prime(3), binary(2, 7)} {
		list := all(f, 2)
		for _, a := range list {
			for _, b := range list {
				for _, c := range list {
					try(laws{t, f}, a, b, c, r)
				}
			}
		}
	}
}

// TestRing checks P5.4.
func TestRing(t *testing.T) {
	triples(t, func(l laws, a, b, c []int, r *rand.Rand) {
		l.equal("a + b = b + a", l.add(a, b), l.add(b, a))
		l.equal("a * b = b * a", l.mul(a, b), l.mul(b, a))
		l.equal("(a + b) + c = a + (b + c)", l.add(l.add(a, b), c), l.add(a, l.add(b, c)))
		l.equal("(a * b) * c = a * (b * c)", l.mul(l.mul(a, b), c), l.mul(a, l.mul(b, c)))
		l.equal("a * (b + c) = a * b + a * c", l.mul(a, l.add(b, c)), l.add(l.mul(a, b), l.mul(a, c)))
		x := r.IntN(l.f.Size)
		u, v := l.value(a, x), l.value(b, x)
		if got := l.value(l.add(a, b), x); got != sum(l.f, u, v) {
			t.Errorf("the value of the sum of %v and %v over %v at %d is %d", a, b, l.f, x, got)
		}
		if got := l.value(l.mul(a, b), x); got != product(l.f, u, v) {
			t.Errorf("the value of the product of %v and %v over %v at %d is %d", a, b, l.f, x, got)
		}
	})
}

// TestDivision checks P5.5.
func TestDivision(t *testing.T) {
	triples(t, func(l laws, q, b, r []int, _ *rand.Rand) {
		if len(b) == 0 {
			return
		}
		r = short(r[:min(len(r), len(b)-1)])
		gotQ, gotR, e := polynomial.DivMod(l.f, l.add(l.mul(q, b), r), b)
		l.equal("quotients", l.ok(gotQ, e), q)
		l.equal("remainders", l.ok(gotR, e), r)
	})
}

// TestDivisors checks P5.6.
func TestDivisors(t *testing.T) {
	triples(t, func(l laws, a, b, c []int, _ *rand.Rand) {
		if len(c) > 0 {
			// So that there is a common divisor.
			a, b = l.mul(a, c), l.mul(b, c)
		}
		d := l.divisor(a, b)
		if len(d) == 0 {
			if len(a) != 0 || len(b) != 0 {
				t.Errorf("GCD of %v and %v over %v is zero", a, b, l.f)
			}
			return
		}
		if d[len(d)-1] != 1 {
			t.Errorf("GCD of %v and %v over %v is %v", a, b, l.f, d)
		}
		l.equal("GCD(a, b) divides a", l.rest(a, d), nil)
		l.equal("GCD(a, b) divides b", l.rest(b, d), nil)
		if len(c) > 0 {
			l.equal("c divides GCD(a*c, b*c)", l.rest(d, c), nil)
		}
		if len(b) > 0 {
			l.equal("GCD(a, b) = GCD(b, r)", d, l.divisor(b, l.rest(a, b)))
		}
	})
}

// TestRootsAndFactors checks P5.7.
func TestRootsAndFactors(t *testing.T) {
	r := newRand()
	for _, f := range fields() {
		l := laws{t, f}
		for n := range 20 {
			given := make([]int, n)
			for i := range given {
				given[i] = r.IntN(f.Size)
			}
			p := l.ok(polynomial.FromRoots(f, given))
			found, e := polynomial.Roots(f, p)
			check(t, "Roots", f, found, e, slices.Compact(slices.Sorted(slices.Values(given))))
			// Another factor may add roots, but not too many.
			p = l.mul(p, random(r, f, 1+r.IntN(8)))
			found, e = polynomial.Roots(f, p)
			if e != api.OK || len(found) > len(p)-1 {
				t.Errorf("Roots of %v over %v: %v, %d", p, f, found, e)
			}
			for x := 0; x < f.Size; x += 1 + f.Size/50 {
				divided := len(l.rest(p, []int{opposite(f, x), 1})) == 0
				if divided != slices.Contains(found, x) {
					t.Errorf("Roots of %v over %v: %v, which is wrong at %d", p, f, found, x)
				}
			}
		}
	}
}

// TestInterpolation checks P5.8.
func TestInterpolation(t *testing.T) {
	r := newRand()
	for _, f := range fields() {
		l := laws{t, f}
		for n := range min(f.Size, 30) + 1 {
			for degree := range n + 1 {
				p := random(r, f, degree)
				xs := distinct(r, f, n)
				ys := make([]int, n)
				for i, x := range xs {
					ys[i] = l.value(p, x)
				}
				l.equal("Interpolate", l.ok(polynomial.Interpolate(f, xs, ys)), p)
			}
		}
	}
}

// TestInterpolationOfAll checks P5.8 with as many points as there are elements, and a polynomial whose values are easy: x^(Size - 1) has the value 1 at all elements but 0.
func TestInterpolationOfAll(t *testing.T) {
	r := newRand()
	for _, f := range fields() {
		p := make([]int, f.Size)
		p[0] = r.IntN(f.Size)
		p[1] = r.IntN(f.Size)
		// In the field with 2 elements both are the same coefficient.
		p[f.Size-1] = 1 + r.IntN(f.Size-1)
		xs, ys := r.Perm(f.Size), make([]int, f.Size)
		for i, x := range xs {
			ys[i] = p[0]
			if x != 0 {
				ys[i] = sum(f, ys[i], p[f.Size-1])
			}
			if f.Size > 2 {
				ys[i] = sum(f, ys[i], product(f, p[1], x))
			}
		}
		q, e := polynomial.Interpolate(f, xs, ys)
		check(t, "Interpolate", f, q, e, p)
	}
}

// TestDerivatives checks P5.9.
func TestDerivatives(t *testing.T) {
	triples(t, func(l laws, a, b, _ []int, r *rand.Rand) {
		da, db := l.derive(a), l.derive(b)
		l.equal("(a + b)' = a' + b'", l.derive(l.add(a, b)), l.add(da, db))
		l.equal("(a * b)' = a' * b + a * b'", l.derive(l.mul(a, b)), l.add(l.mul(da, b), l.mul(a, db)))
		by := r.IntN(l.f.Size)
		l.equal("(a * c)' = a' * c", l.derive(l.scale(a, by)), l.scale(da, by))
	})
}
