package galois_test

import (
	"math"
	"testing"

	"barscan/api"
	"barscan/galois"
)

// TestBinary checks P4.1.
func TestBinary(t *testing.T) {
	right := irreducible()
	for degree := 1; degree <= 12; degree++ {
		for poly, is := range right {
			f, e := galois.Binary(degree, poly)
			if is && poly>>degree == 1 {
				if e != api.OK || f != binary(degree, poly) {
					t.Errorf("Binary(%d, %#x) = %v, %d", degree, poly, f, e)
				}
			} else if e != api.ErrPoly || f != (api.Field{}) {
				t.Errorf("Binary(%d, %#x) = %v, %d; want ErrPoly", degree, poly, f, e)
			}
		}
		for _, poly := range []int{-1, -7, -0x11d, 1<<13 + 27, 1<<32 + 7, math.MaxInt, math.MinInt} {
			if f, e := galois.Binary(degree, poly); e != api.ErrPoly || f != (api.Field{}) {
				t.Errorf("Binary(%d, %d) = %v, %d; want ErrPoly", degree, poly, f, e)
			}
		}
	}
	for _, degree := range []int{0, -1, 13, 64, math.MaxInt, math.MinInt} {
		for _, poly := range []int{0, 1, 2, 7, 0x201b, -1} {
			if f, e := galois.Binary(degree, poly); e != api.ErrRange || f != (api.Field{}) {
				t.Errorf("Binary(%d, %d) = %v, %d; want ErrRange", degree, poly, f, e)
			}
		}
	}
}

// TestPrime checks P4.1.
func TestPrime(t *testing.T) {
	for p, is := range primes(api.MaxField) {
		f, e := galois.Prime(p)
		switch {
		case p < 2:
			if e != api.ErrRange || f != (api.Field{}) {
				t.Errorf("Prime(%d) = %v, %d; want ErrRange", p, f, e)
			}
		case !is:
			if e != api.ErrArg || f != (api.Field{}) {
				t.Errorf("Prime(%d) = %v, %d; want ErrArg", p, f, e)
			}
		case p > 2:
			if e != api.OK || f != prime(p) {
				t.Errorf("Prime(%d) = %v, %d", p, f, e)
			}
		}
	}
	if f, e := galois.Prime(2); e != api.OK || f != binary(1, 2) {
		t.Errorf("Prime(2) = %v, %d", f, e)
	}
	for _, p := range []int{-1, -7, api.MaxField + 1, 4099, math.MaxInt, math.MinInt} {
		if f, e := galois.Prime(p); e != api.ErrRange || f != (api.Field{}) {
			t.Errorf("Prime(%d) = %v, %d; want ErrRange", p, f, e)
		}
	}
}

// TestValid checks P4.1.
func TestValid(t *testing.T) {
	for _, f := range fields() {
		if !galois.Valid(f) {
			t.Errorf("%v is not valid", f)
		}
	}
	for _, f := range invalid() {
		if galois.Valid(f) {
			t.Errorf("%v is valid", f)
		}
	}
	for p, is := range primes(api.MaxField) {
		if f := prime(p); galois.Valid(f) != (is && p > 2) {
			t.Errorf("Valid(%v) is wrong", f)
		}
	}
	right := irreducible()
	for degree := range 14 {
		for poly, is := range right {
			if f := binary(degree, poly); galois.Valid(f) != (is && degree <= 12 && poly>>degree == 1) {
				t.Errorf("Valid(%v) is wrong", f)
			}
		}
	}
}

// TestSums checks P4.2.
func TestSums(t *testing.T) {
	pairs(func(f api.Field, a, b int) {
		x, e := galois.Add(f, a, b)
		check(t, "Add", f, a, b, x, e, sum(f, a, b))
		y, e := galois.Sub(f, a, b)
		if e != api.OK || y < 0 || y >= f.Size || sum(f, y, b) != a {
			t.Errorf("Sub(%v, %d, %d) = %d, %d", f, a, b, y, e)
		}
	})
}

// TestMul checks P4.2.
func TestMul(t *testing.T) {
	pairs(func(f api.Field, a, b int) {
		x, e := galois.Mul(f, a, b)
		check(t, "Mul", f, a, b, x, e, product(f, a, b))
	})
	x, e := galois.Mul(binary(8, 0x11d), 0x80, 2)
	check(t, "Mul", binary(8, 0x11d), 0x80, 2, x, e, 0x1d)
	x, e = galois.Mul(binary(2, 7), 2, 3)
	check(t, "Mul", binary(2, 7), 2, 3, x, e, 1)
}

// TestQuotients checks P4.3.
func TestQuotients(t *testing.T) {
	elements(func(f api.Field, a int) {
		x, e := galois.Inv(f, a)
		if a == 0 {
			checkError(t, "Inv", f, a, 0, x, e, api.ErrZero)
		} else if e != api.OK || x < 0 || x >= f.Size || product(f, x, a) != 1 {
			t.Errorf("Inv(%v, %d) = %d, %d", f, a, x, e)
		}
	})
	pairs(func(f api.Field, a, b int) {
		x, e := galois.Div(f, a, b)
		if b == 0 {
			checkError(t, "Div", f, a, b, x, e, api.ErrZero)
		} else if e != api.OK || x < 0 || x >= f.Size || product(f, x, b) != a {
			t.Errorf("Div(%v, %d, %d) = %d, %d", f, a, b, x, e)
		}
	})
}

// exponents returns exponents of many kinds for a field.
func exponents(f api.Field) []int {
	return []int{0, 1, 2, 3, 7, 100, -1, -2, -3, -100, f.Size - 2, f.Size - 1, f.Size, 1 - f.Size, -f.Size, 2 - f.Size, 1e9, -1e9, 1 << 40, -1 << 40, math.MaxInt - 1, math.MaxInt, math.MinInt, math.MinInt + 1}
}

// TestPow checks P4.4.
func TestPow(t *testing.T) {
	for _, f := range fields() {
		for _, n := range exponents(f) {
			x, e := galois.Pow(f, 0, n)
			switch {
			case n < 0:
				checkError(t, "Pow", f, 0, n, x, e, api.ErrZero)
			case n == 0:
				check(t, "Pow", f, 0, n, x, e, 1)
			default:
				check(t, "Pow", f, 0, n, x, e, 0)
			}
		}
		for a := 1; a < f.Size; a += 1 + f.Size/50 {
			list := powers(f, a)
			for _, n := range exponents(f) {
				at := n % len(list)
				if at < 0 {
					at += len(list)
				}
				x, e := galois.Pow(f, a, n)
				check(t, "Pow", f, a, n, x, e, list[at])
			}
		}
	}
}

// TestOrder checks P4.5.
func TestOrder(t *testing.T) {
	elements(func(f api.Field, a int) {
		n, e := galois.Order(f, a)
		if a == 0 {
			checkError(t, "Order", f, a, 0, n, e, api.ErrZero)
			return
		}
		check(t, "Order", f, a, 0, n, e, len(powers(f, a)))
	})
}

// leastGenerator returns the least element whose powers are all elements but 0.
func leastGenerator(f api.Field) int {
	for a := 1; ; a++ {
		if len(powers(f, a)) == f.Size-1 {
			return a
		}
	}
}

// TestGenerator checks P4.5.
func TestGenerator(t *testing.T) {
	for _, f := range fields() {
		g, e := galois.Generator(f)
		check(t, "Generator", f, 0, 0, g, e, leastGenerator(f))
	}
	for _, f := range []api.Field{binary(4, 0x13), binary(6, 0x43), binary(8, 0x11d), binary(8, 0x12d), binary(10, 0x409), binary(12, 0x1069)} {
		g, e := galois.Generator(f)
		check(t, "Generator", f, 0, 0, g, e, 2)
	}
	for _, f := range []api.Field{prime(929), prime(7), binary(8, 0x11b)} {
		g, e := galois.Generator(f)
		check(t, "Generator", f, 0, 0, g, e, 3)
	}
}

// TestExp checks P4.6.
func TestExp(t *testing.T) {
	for _, f := range fields() {
		list := powers(f, leastGenerator(f))
		for n := -f.Size - 3; n < 2*f.Size+3; n += 1 + f.Size/60 {
			at := n % len(list)
			if at < 0 {
				at += len(list)
			}
			x, e := galois.Exp(f, n)
			check(t, "Exp", f, n, 0, x, e, list[at])
		}
		for _, n := range []int{math.MaxInt, math.MinInt} {
			at := (n%len(list) + len(list)) % len(list)
			x, e := galois.Exp(f, n)
			check(t, "Exp", f, n, 0, x, e, list[at])
		}
	}
}

// TestLog checks P4.6.
func TestLog(t *testing.T) {
	for _, f := range fields() {
		for n, a := range powers(f, leastGenerator(f)) {
			x, e := galois.Log(f, a)
			check(t, "Log", f, a, 0, x, e, n)
		}
		x, e := galois.Log(f, 0)
		checkError(t, "Log", f, 0, 0, x, e, api.ErrZero)
	}
	x, e := galois.Log(prime(7), 6)
	check(t, "Log", prime(7), 6, 0, x, e, 3)
}

// function is a function of a field and two numbers, of which it may ignore the second one.
type function struct {
	name string
	call func(f api.Field, a, b int) (int, api.Errno)
	both bool // whether the second number must be an element
}

// functions returns the functions whose first number must be an element.
func functions() []function {
	return []function{
		{"Add", galois.Add, true},
		{"Sub", galois.Sub, true},
		{"Mul", galois.Mul, true},
		{"Div", galois.Div, true},
		{"Pow", galois.Pow, false},
		{"Inv", func(f api.Field, a, b int) (int, api.Errno) { return galois.Inv(f, a) }, false},
		{"Order", func(f api.Field, a, b int) (int, api.Errno) { return galois.Order(f, a) }, false},
		{"Log", func(f api.Field, a, b int) (int, api.Errno) { return galois.Log(f, a) }, false},
	}
}

// TestErrors checks that P4.1's ErrArg comes first.
func TestErrors(t *testing.T) {
	for _, f := range invalid() {
		for _, g := range functions() {
			for _, p := range [][2]int{{0, 0}, {1, 1}, {0, 1}, {1, 0}, {0, -1}, {-1, 0}, {f.Size, f.Size}} {
				x, e := g.call(f, p[0], p[1])
				checkError(t, g.name, f, p[0], p[1], x, e, api.ErrArg)
			}
		}
		x, e := galois.Generator(f)
		checkError(t, "Generator", f, 0, 0, x, e, api.ErrArg)
		for _, n := range []int{0, 1, -1} {
			x, e := galois.Exp(f, n)
			checkError(t, "Exp", f, n, 0, x, e, api.ErrArg)
		}
	}
	for _, f := range fields() {
		for _, bad := range notElements(f) {
			for _, g := range functions() {
				for _, good := range []int{0, 1, f.Size - 1} {
					x, e := g.call(f, bad, good)
					checkError(t, g.name, f, bad, good, x, e, api.ErrArg)
					if g.both {
						x, e := g.call(f, good, bad)
						checkError(t, g.name, f, good, bad, x, e, api.ErrArg)
					}
				}
				x, e := g.call(f, bad, bad)
				checkError(t, g.name, f, bad, bad, x, e, api.ErrArg)
			}
		}
	}
}
