package fraction_test

import (
	"math/big"
	"testing"

	"barscan/api"
	"barscan/fraction"
)

// smallFractions returns all fractions with denominators up to most that are not further from 0 than 2.
func smallFractions(most int64) []*big.Rat {
	seen := map[string]bool{}
	var list []*big.Rat
	for den := int64(1); den <= most; den++ {
		for num := -2 * den; num <= 2*den; num++ {
			if v := big.NewRat(num, den); !seen[v.String()] {
				seen[v.String()] = true
				list = append(list, v)
			}
		}
	}
	return list
}

// trySimplest tries all denominators, and for each of them the numerator of the fraction nearest to 0 in the interval.
func trySimplest(lo, hi *big.Rat) *big.Rat {
	if lo.Sign() <= 0 && hi.Sign() >= 0 {
		return new(big.Rat)
	}
	for den := int64(1); ; den++ {
		by := big.NewRat(den, 1)
		num := ceil(new(big.Rat).Mul(lo, by))
		if hi.Sign() < 0 {
			num = floor(new(big.Rat).Mul(hi, by))
		}
		v := new(big.Rat).SetFrac(num, big.NewInt(den))
		if v.Cmp(lo) >= 0 && v.Cmp(hi) <= 0 {
			return v
		}
	}
}

func floor(v *big.Rat) *big.Int {
	return new(big.Int).Div(v.Num(), v.Denom())
}

func ceil(v *big.Rat) *big.Int {
	n := floor(new(big.Rat).Neg(v))
	return n.Neg(n)
}

// checkSimplest checks a result of Simplest, and that of the opposite interval.
func checkSimplest(t *testing.T, lo, hi, want *big.Rat) {
	t.Helper()
	if x, e := fraction.Simplest(fracOf(lo), fracOf(hi)); e != api.OK || !same(x, fracOf(want)) {
		t.Errorf("Simplest of %v and %v is %s, %d; want %v", lo, hi, fraction.Format(x), e, want)
	}
	minus := func(v *big.Rat) *big.Rat { return new(big.Rat).Neg(v) }
	if x, e := fraction.Simplest(fracOf(minus(hi)), fracOf(minus(lo))); e != api.OK || !same(x, fracOf(minus(want))) {
		t.Errorf("Simplest of %v and %v is %s, %d; want %v", minus(hi), minus(lo), fraction.Format(x), e, minus(want))
	}
}

// TestSimplest checks P3.5.
func TestSimplest(t *testing.T) {
	for _, c := range [][3]string{
		{"1/3", "1/2", "1/2"},
		{"5/2", "9/2", "3"},
		{"-1/3", "-2/7", "-1/3"},
		{"31/10", "16/5", "16/5"},
		{"-1/3", "2/7", "0"},
		{"0", "5", "0"},
		{"-5", "0", "0"},
		{"0", "0", "0"},
		{"-9/2", "-5/2", "-3"},
		{"3", "3", "3"},
		{"3", "100", "3"},
		{"5/2", "3", "3"},
		{"22/7", "22/7", "22/7"},
	} {
		checkSimplest(t, ratOf(frac(c[0])), ratOf(frac(c[1])), ratOf(frac(c[2])))
	}
	list := smallFractions(7)
	for _, lo := range list {
		for _, hi := range list {
			if lo.Cmp(hi) <= 0 {
				checkSimplest(t, lo, hi, trySimplest(lo, hi))
			}
		}
	}
}

// TestSimplestRandom checks P3.5 with intervals of random widths whose results have denominators that can be tried.
func TestSimplestRandom(t *testing.T) {
	r := newRand()
	for range 150 {
		size := uint(1 + r.IntN(3000))
		lo := new(big.Rat).SetFrac(randomBig(r, size+uint(r.IntN(8))), randomBig(r, size))
		hi := new(big.Rat).Add(lo, big.NewRat(1, 1+r.Int64N(50000)))
		checkSimplest(t, lo, hi, trySimplest(lo, hi))
	}
}

// TestSimplestLimit checks P3.5 with fractions at the limit.
func TestSimplestLimit(t *testing.T) {
	a, b := big.NewInt(1), big.NewInt(1)
	for b.BitLen() < maxBits {
		a, b = b, new(big.Int).Add(a, b)
	}
	c := new(big.Int).Sub(b, a)
	one := big.NewRat(1, 1)
	for _, p := range [][2]*big.Int{{b, a}, {a, b}, {longest(), big.NewInt(1)}, {big.NewInt(1), longest()}, {longest(), power(maxBits, -2)}} {
		v := new(big.Rat).SetFrac(p[0], p[1])
		checkSimplest(t, v, v, v)
		checkSimplest(t, new(big.Rat).Neg(v), v, new(big.Rat))
	}
	// Neighbours of the golden ratio: the simpler one of them is the result.
	near, far := new(big.Rat).SetFrac(a, c), new(big.Rat).SetFrac(b, a)
	if near.Cmp(far) > 0 {
		checkSimplest(t, far, near, near)
	} else {
		checkSimplest(t, near, far, near)
	}
	checkSimplest(t, one, new(big.Rat).SetInt(longest()), one)
	most := new(big.Rat).SetInt(longest())
	checkSimplest(t, new(big.Rat).SetFrac(power(maxBits, -3), big.NewInt(2)), most, new(big.Rat).SetInt(power(maxBits-1, -1)))
	least := new(big.Rat).Inv(most)
	checkSimplest(t, least, new(big.Rat).SetFrac(big.NewInt(1), power(maxBits, -2)), new(big.Rat).SetFrac(big.NewInt(1), power(maxBits, -2)))
	checkSimplest(t, least, one, one)
}

func TestSimplestErrors(t *testing.T) {
	for _, p := range [][2]string{{"1/2", "1/3"}, {"1", "0"}, {"0", "-1"}, {"-1/3", "-1/2"}, {"1", "-1"}} {
		x, e := fraction.Simplest(frac(p[0]), frac(p[1]))
		checkError(t, "Simplest", x, e, api.ErrRange)
	}
	for i, bad := range invalid() {
		for _, good := range []api.Frac{frac("0"), frac("-3/2"), frac("5")} {
			for _, p := range [][2]api.Frac{{bad, good}, {good, bad}, {bad, bad}} {
				if x, e := fraction.Simplest(p[0], p[1]); e != api.ErrArg || !isZeroValue(x) {
					t.Errorf("Simplest with invalid fraction %d: error %d", i, e)
				}
			}
		}
	}
}
