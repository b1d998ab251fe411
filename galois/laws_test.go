package galois_test

import (
	"testing"

	"barscan/api"
	"barscan/galois"
)

// must returns the first result of a call that must not fail.
func must(t *testing.T) func(x int, e api.Errno) int {
	return func(x int, e api.Errno) int {
		t.Helper()
		if e != api.OK {
			t.Fatalf("error %d", e)
		}
		return x
	}
}

// triples calls try with all triples of elements of the smallest fields, and with many triples of elements of the others.
func triples(try func(f api.Field, a, b, c int)) {
	r := newRand()
	for _, f := range fields() {
		if f.Size > 16 {
			for range 500 {
				try(f, r.IntN(f.Size), r.IntN(f.Size), r.IntN(f.Size))
			}
			continue
		}
		for a := range f.Size {
			for b := range f.Size {
				for c := range f.Size {
					try(f, a, b, c)
				}
			}
		}
	}
}

// TestField checks P4.7.
func TestField(t *testing.T) {
	ok := must(t)
	triples(func(f api.Field, a, b, c int) {
		add := func(x, y int) int { return ok(galois.Add(f, x, y)) }
		mul := func(x, y int) int { return ok(galois.Mul(f, x, y)) }
		switch {
		case add(a, b) != add(b, a) || mul(a, b) != mul(b, a):
			t.Errorf("%v: %d and %d do not commute", f, a, b)
		case add(a, add(b, c)) != add(add(a, b), c) || mul(a, mul(b, c)) != mul(mul(a, b), c):
			t.Errorf("%v: %d, %d and %d do not associate", f, a, b, c)
		case mul(a, add(b, c)) != add(mul(a, b), mul(a, c)):
			t.Errorf("%v: %d does not distribute over %d and %d", f, a, b, c)
		case add(a, 0) != a || mul(a, 1) != a:
			t.Errorf("%v: neutral elements and %d", f, a)
		case add(a, ok(galois.Sub(f, 0, a))) != 0:
			t.Errorf("%v: the opposite of %d", f, a)
		case a != 0 && mul(a, ok(galois.Inv(f, a))) != 1:
			t.Errorf("%v: the inverse of %d", f, a)
		case b != 0 && mul(ok(galois.Div(f, a, b)), b) != a:
			t.Errorf("%v: the quotient of %d and %d", f, a, b)
		}
	})
}

// TestPowers checks P4.8.
func TestPowers(t *testing.T) {
	ok := must(t)
	r := newRand()
	pairs(func(f api.Field, a, b int) {
		pow := func(x, n int) int { return ok(galois.Pow(f, x, n)) }
		add := func(x, y int) int { return ok(galois.Add(f, x, y)) }
		if pow(add(a, b), f.Char) != add(pow(a, f.Char), pow(b, f.Char)) {
			t.Errorf("%v: the powers of %d, %d and their sum", f, a, b)
		}
		if a == 0 {
			return
		}
		n, m := r.IntN(20000)-10000, r.IntN(20000)-10000
		if pow(a, n+m) != ok(galois.Mul(f, pow(a, n), pow(a, m))) {
			t.Errorf("%v: the powers %d and %d of %d", f, n, m, a)
		}
		if order := ok(galois.Order(f, a)); (f.Size-1)%order != 0 || pow(a, order) != 1 {
			t.Errorf("%v: the order of %d is %d", f, a, order)
		}
	})
}

// TestLogarithms checks P4.9.
func TestLogarithms(t *testing.T) {
	ok := must(t)
	pairs(func(f api.Field, a, b int) {
		if a == 0 || b == 0 {
			return
		}
		log := func(x int) int { return ok(galois.Log(f, x)) }
		if ok(galois.Exp(f, log(a))) != a {
			t.Errorf("%v: the logarithm of %d is %d", f, a, log(a))
		}
		if log(ok(galois.Mul(f, a, b))) != (log(a)+log(b))%(f.Size-1) {
			t.Errorf("%v: the logarithm of the product of %d and %d", f, a, b)
		}
	})
}
