package fraction_test

import (
	"math/big"
	"testing"

	"barscan/api"
	"barscan/fraction"
)

// operation is a function of two fractions, with the one of the standard library that it must agree with.
type operation struct {
	name string
	call func(a, b api.Frac) (api.Frac, api.Errno)
	want func(a, b *big.Rat) *big.Rat
}

// operations returns all operations; that of the division must not be called with 0 as the second argument.
func operations() []operation {
	return []operation{
		{"Add", fraction.Add, func(a, b *big.Rat) *big.Rat { return new(big.Rat).Add(a, b) }},
		{"Sub", fraction.Sub, func(a, b *big.Rat) *big.Rat { return new(big.Rat).Sub(a, b) }},
		{"Mul", fraction.Mul, func(a, b *big.Rat) *big.Rat { return new(big.Rat).Mul(a, b) }},
		{"Div", fraction.Div, func(a, b *big.Rat) *big.Rat { return new(big.Rat).Quo(a, b) }},
	}
}

// checkOperations checks all operations with two fractions.
func checkOperations(t *testing.T, a, b *big.Rat) {
	t.Helper()
	x, y := fracOf(a), fracOf(b)
	for _, o := range operations() {
		z, e := o.call(x, y)
		if o.name == "Div" && b.Sign() == 0 {
			checkError(t, o.name, z, e, api.ErrZero)
			continue
		}
		checkResult(t, o.name, z, e, o.want(a, b))
	}
}

// checkPair checks all operations with two fractions, and again in the other order and with another sign.
func checkPair(t *testing.T, a, b *big.Rat) {
	t.Helper()
	checkOperations(t, a, b)
	checkOperations(t, new(big.Rat).Neg(b), a)
}

// TestArithmetic checks P3.2.
func TestArithmetic(t *testing.T) {
	list := samples()
	for _, a := range list {
		for _, b := range list {
			checkOperations(t, ratOf(a), ratOf(b))
		}
	}
}

// TestArithmeticExamples checks P3.2 with the examples of the document.
func TestArithmeticExamples(t *testing.T) {
	for _, c := range []struct {
		call       func(a, b api.Frac) (api.Frac, api.Errno)
		a, b, want string
	}{
		{fraction.Add, "1/6", "1/3", "1/2"},
		{fraction.Mul, "2/3", "3/4", "1/2"},
		{fraction.Div, "1/2", "-3/4", "-2/3"},
		{fraction.Sub, "1/2", "1/2", "0"},
		{fraction.Sub, "1/3", "1/2", "-1/6"},
		{fraction.Div, "0", "-3/4", "0"},
	} {
		if x, e := c.call(frac(c.a), frac(c.b)); e != api.OK || !same(x, frac(c.want)) {
			t.Errorf("%s and %s give %s, %d", c.a, c.b, fraction.Format(x), e)
		}
	}
	long := quotientOf(power(32*300, 0), big.NewInt(1))
	x, e := fraction.Mul(long, long)
	checkError(t, "Mul", x, e, api.ErrLong)
	if x, e := fraction.Mul(long, quotientOf(big.NewInt(1), power(32*300, 0))); e != api.OK || !same(x, frac("1")) {
		t.Error(x, e)
	}
}

func TestArithmeticErrors(t *testing.T) {
	for i, bad := range invalid() {
		for _, o := range operations() {
			for _, good := range []api.Frac{frac("0"), frac("1"), frac("-2/3")} {
				for _, p := range [][2]api.Frac{{bad, good}, {good, bad}, {bad, bad}} {
					if x, e := o.call(p[0], p[1]); e != api.ErrArg || !isZeroValue(x) {
						t.Errorf("%s with invalid fraction %d: error %d", o.name, i, e)
					}
				}
			}
		}
	}
	for _, x := range samples() {
		y, e := fraction.Div(x, frac("0"))
		checkError(t, "Div", y, e, api.ErrZero)
	}
}

// TestLimit checks P3.2 for numerators and denominators at the limit and next to it.
func TestLimit(t *testing.T) {
	var list []*big.Rat
	for _, v := range []*big.Int{longest(), power(maxBits, -2), power(maxBits-1, 0), power(maxBits-1, 1), power(maxBits-1, -1)} {
		for _, w := range []int64{1, 2, 3} {
			list = append(list, new(big.Rat).SetFrac(v, big.NewInt(w)), new(big.Rat).SetFrac(big.NewInt(w), v))
		}
	}
	for _, s := range []string{"1", "2", "1/2", "3/2"} {
		list = append(list, ratOf(frac(s)))
	}
	for i, a := range list {
		for _, b := range list[i:] {
			checkPair(t, a, b)
		}
	}
}

// TestShortResults checks P3.2: sums with long intermediate results whose lowest terms are short.
func TestShortResults(t *testing.T) {
	r := newRand()
	long, short := 0, 0
	for _, sizes := range [][3]uint{{8, 8, 8}, {100, 50, 60}, {16000, 300, 300}, {16300, 80, 84}, {8192, 8192, 8192}, {8000, 8150, 8192}, {8191, 8192, 8193}, {300, 8000, 8100}, {4000, 12000, 12300}, {12000, 4000, 4300}, {16384, 1, 1}, {16383, 2, 2}, {5000, 3000, 11000}} {
		for range 8 {
			g, x, y := randomBig(r, sizes[0]), randomBig(r, sizes[1]), randomBig(r, sizes[2])
			inverse := new(big.Int).ModInverse(x, g)
			if inverse == nil {
				continue
			}
			b, d := new(big.Int).Mul(g, x), new(big.Int).Mul(g, y)
			if b.BitLen() > maxBits || d.BitLen() > maxBits {
				continue
			}
			// With this c the divisor g is a divisor of a*y + c*x.
			a := randomBig(r, uint(8000+r.IntN(maxBits-8000)))
			c := new(big.Int).Mul(a, y)
			c.Neg(c).Mul(c, inverse).Mod(c, g)
			if space := maxBits - g.BitLen() - 1; space > 0 {
				c.Add(c, new(big.Int).Mul(g, randomBig(r, uint(1+r.IntN(space)))))
			}
			p, q := new(big.Rat).SetFrac(a, b), new(big.Rat).SetFrac(c, d)
			checkPair(t, p, q)
			if sum := new(big.Rat).Add(p, q); sum.Num().BitLen() <= maxBits && sum.Denom().BitLen() <= maxBits {
				short++
			} else {
				long++
			}
		}
	}
	if long < 10 || short < 30 {
		t.Errorf("%d results are too long, %d are not", long, short)
	}
}

// TestCancellation checks P3.2: differences of long fractions that are nearly equal.
func TestCancellation(t *testing.T) {
	r := newRand()
	for _, size := range []uint{1, 31, 4000, 8000, 8190} {
		for range 6 {
			b, d := randomBig(r, size), randomBig(r, size)
			a := randomBig(r, maxBits-1)
			// c/d is next to a/b, so that their difference is less than 1/d, though their numerators are as long as they can be.
			c := new(big.Int).Mul(a, d)
			c.Div(c, b)
			if c.BitLen() > maxBits {
				continue
			}
			checkPair(t, new(big.Rat).SetFrac(a, b), new(big.Rat).SetFrac(c, d))
		}
	}
	// Halves of the longest integer, of the one after it, and of neighbours: their sums are at the limit or next to it.
	half := new(big.Rat).SetFrac(longest(), big.NewInt(2))
	less := new(big.Rat).Sub(half, big.NewRat(1, 1))
	for _, other := range []*big.Rat{half, less, new(big.Rat).SetInt(power(maxBits-1, 0)), new(big.Rat).SetInt(power(maxBits-1, -1))} {
		checkPair(t, half, other)
		checkPair(t, new(big.Rat).Neg(half), other)
		checkPair(t, less, other)
	}
}

// TestRandomArithmetic checks P3.2 with fractions of random lengths that have divisors in common.
func TestRandomArithmetic(t *testing.T) {
	r := newRand()
	for range 80 {
		shared := randomBig(r, uint(1+r.IntN(5000)))
		next := func() *big.Int { return randomBig(r, uint(1+r.IntN(6000))) }
		p := new(big.Rat).SetFrac(next(), new(big.Int).Mul(shared, next()))
		q := new(big.Rat).SetFrac(new(big.Int).Mul(shared, next()), next())
		checkPair(t, p, q)
		checkPair(t, p, new(big.Rat).SetFrac(next(), new(big.Int).Mul(shared, next())))
	}
}
