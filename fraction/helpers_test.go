package fraction_test

import (
	"math/big"
	"math/rand/v2"
	"slices"
	"testing"

	"barscan/api"
	"barscan/fraction"
)

// maxBits is the number of bits of the longest magnitude.
const maxBits = 32 * api.MaxLimbs

// bigOf returns the value of an integer.
func bigOf(x api.Int) *big.Int {
	v := new(big.Int)
	for i := len(x.Mag) - 1; i >= 0; i-- {
		v.Lsh(v, 32).Or(v, new(big.Int).SetUint64(uint64(x.Mag[i])))
	}
	if x.Neg {
		v.Neg(v)
	}
	return v
}

// intOf returns the integer with a value, in normal form.
func intOf(v *big.Int) api.Int {
	x := api.Int{Neg: v.Sign() < 0}
	limb, mask := new(big.Int), new(big.Int).SetUint64(1<<32-1)
	for rest := new(big.Int).Abs(v); rest.Sign() != 0; rest.Rsh(rest, 32) {
		x.Mag = append(x.Mag, uint32(limb.And(rest, mask).Uint64()))
	}
	return x
}

// ratOf returns the value of a fraction.
func ratOf(x api.Frac) *big.Rat {
	return new(big.Rat).SetFrac(bigOf(x.Num), bigOf(x.Den))
}

// fracOf returns the fraction with a value, in normal form.
func fracOf(v *big.Rat) api.Frac {
	return api.Frac{Num: intOf(v.Num()), Den: intOf(v.Denom())}
}

// frac returns the fraction with a text, computed by the standard library.
func frac(s string) api.Frac {
	v, ok := new(big.Rat).SetString(s)
	if !ok {
		panic(s)
	}
	return fracOf(v)
}

// quotientOf returns the fraction a/b.
func quotientOf(a, b *big.Int) api.Frac {
	return fracOf(new(big.Rat).SetFrac(a, b))
}

// power returns 2^n + plus.
func power(n uint, plus int64) *big.Int {
	v := new(big.Int).Lsh(big.NewInt(1), n)
	return v.Add(v, big.NewInt(plus))
}

// longest returns the largest integer that is not too long.
func longest() *big.Int {
	return power(maxBits, -1)
}

// sameInt reports whether two integers have equal fields; a nil magnitude equals an empty one.
func sameInt(a, b api.Int) bool {
	return a.Neg == b.Neg && slices.Equal(a.Mag, b.Mag)
}

// same reports whether two fractions have equal fields.
func same(a, b api.Frac) bool {
	return sameInt(a.Num, b.Num) && sameInt(a.Den, b.Den)
}

// isZeroValue reports whether a fraction is the one that comes with an error.
func isZeroValue(x api.Frac) bool {
	return same(x, api.Frac{})
}

func newRand() *rand.Rand {
	return rand.New(rand.NewPCG(5, 6))
}

// randomBig returns a number with n bits, which has long runs of equal bits now and then.
func randomBig(r *rand.Rand, n uint) *big.Int {
	v := new(big.Int)
	for v.BitLen() < int(n) {
		limb := r.Uint64()
		switch r.IntN(6) {
		case 0:
			limb = 0
		case 1:
			limb = 1<<64 - 1
		}
		v.Lsh(v, 64).Or(v, new(big.Int).SetUint64(limb|1))
	}
	return v.Rsh(v, uint(v.BitLen())-n)
}

// samples returns fractions of many kinds, of both signs.
func samples() []api.Frac {
	list := []api.Frac{frac("0")}
	add := func(v *big.Rat) {
		list = append(list, fracOf(v), fracOf(new(big.Rat).Neg(v)))
	}
	for _, s := range []string{"1", "2", "5/2", "7/2", "1/2", "1/3", "1/6", "2/3", "3/4", "6/35", "10/21", "4294967296", "1/4294967296", "4294967295/4294967297", "99999999999999999999/7"} {
		add(ratOf(frac(s)))
	}
	for _, p := range [][2]*big.Int{
		{longest(), big.NewInt(1)},
		{big.NewInt(1), longest()},
		{longest(), power(maxBits, -2)},
		{power(maxBits-1, 0), longest()},
		{longest(), big.NewInt(2)},
		{power(maxBits/2, 0), big.NewInt(3)},
		{big.NewInt(3), power(maxBits/2, 0)},
		{power(maxBits/2, 1), power(maxBits/2, -1)},
	} {
		add(new(big.Rat).SetFrac(p[0], p[1]))
	}
	r := newRand()
	for _, n := range []uint{40, 200, 4000, maxBits / 2, maxBits - 1} {
		add(new(big.Rat).SetFrac(randomBig(r, n), randomBig(r, n)))
	}
	return list
}

// few returns fractions that are short enough to be combined three at a time.
func few() []api.Frac {
	var list []api.Frac
	for _, x := range samples() {
		if len(x.Num.Mag) <= 8 && len(x.Den.Mag) <= 8 {
			list = append(list, x)
		}
	}
	return append(list, quotientOf(longest(), big.NewInt(1)), quotientOf(big.NewInt(-1), longest()))
}

// badInts returns integers that are not in normal form.
func badInts() []api.Int {
	return []api.Int{
		{Neg: true},
		{Mag: []uint32{0}},
		{Mag: []uint32{1, 0}},
		{Neg: true, Mag: []uint32{5, 0}},
		intOf(power(maxBits, 0)),
		{Mag: make([]uint32, api.MaxLimbs)},
	}
}

// invalid returns fractions that are not in normal form.
func invalid() []api.Frac {
	n := func(v int64) api.Int { return intOf(big.NewInt(v)) }
	list := []api.Frac{
		{},
		{Num: n(1)},
		{Den: n(2)},
		{Den: n(-1)},
		{Num: n(1), Den: n(-2)},
		{Num: n(-1), Den: n(-1)},
		{Num: n(2), Den: n(2)},
		{Num: n(6), Den: n(4)},
		{Num: n(-9), Den: n(6)},
		{Num: intOf(longest()), Den: intOf(longest())},
		{Num: intOf(power(maxBits-1, 0)), Den: n(2)},
	}
	for _, x := range badInts() {
		list = append(list, api.Frac{Num: x, Den: n(1)}, api.Frac{Num: n(1), Den: x})
	}
	return list
}

// checkResult checks that a result is right; one that is too long must be ErrLong.
func checkResult(t *testing.T, name string, x api.Frac, e api.Errno, want *big.Rat) {
	t.Helper()
	if want.Num().BitLen() > maxBits || want.Denom().BitLen() > maxBits {
		checkError(t, name, x, e, api.ErrLong)
		return
	}
	if e != api.OK || !same(x, fracOf(want)) || !fraction.Valid(x) {
		t.Errorf("%s: error %d and %s", name, e, fraction.Format(x))
	}
}

// checkError checks that an error has come, and a zero value.
func checkError(t *testing.T, name string, x api.Frac, e, want api.Errno) {
	t.Helper()
	if e != want || !isZeroValue(x) {
		t.Errorf("%s: error %d and %s, want error %d", name, e, fraction.Format(x), want)
	}
}
