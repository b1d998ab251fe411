package bigint_test

import (
	"math/big"
	"math/rand/v2"
	"slices"
	"testing"

	"barscan/api"
	"barscan/bigint"
)

// maxBits is the number of bits of the longest magnitude.
const maxBits = 32 * api.MaxLimbs

// toBig returns the value of an integer, computed by the standard library.
func toBig(x api.Int) *big.Int {
	v := new(big.Int)
	for i := len(x.Mag) - 1; i >= 0; i-- {
		v.Lsh(v, 32).Or(v, new(big.Int).SetUint64(uint64(x.Mag[i])))
	}
	if x.Neg {
		v.Neg(v)
	}
	return v
}

// fromBig returns the normal form of a value, without package bigint.
func fromBig(v *big.Int) api.Int {
	x := api.Int{Neg: v.Sign() < 0}
	limb := new(big.Int)
	mask := new(big.Int).SetUint64(1<<32 - 1)
	for rest := new(big.Int).Abs(v); rest.Sign() != 0; rest.Rsh(rest, 32) {
		x.Mag = append(x.Mag, uint32(limb.And(rest, mask).Uint64()))
	}
	return x
}

// number returns the integer with decimal digits, without package bigint.
func number(s string) api.Int {
	v, ok := new(big.Int).SetString(s, 10)
	if !ok {
		panic(s)
	}
	return fromBig(v)
}

// same reports whether two integers have equal fields; a nil magnitude equals an empty one.
func same(a, b api.Int) bool {
	return a.Neg == b.Neg && slices.Equal(a.Mag, b.Mag)
}

// powerOfTwo returns 2^n + plus.
func powerOfTwo(n uint, plus int64) api.Int {
	v := new(big.Int).Lsh(big.NewInt(1), n)
	return fromBig(v.Add(v, big.NewInt(plus)))
}

// largest returns the largest integer.
func largest() api.Int {
	return powerOfTwo(maxBits, -1)
}

func newRand() *rand.Rand {
	return rand.New(rand.NewPCG(3, 4))
}

// randomInt returns an integer with n limbs, many of which are extreme ones.
func randomInt(r *rand.Rand, n int) api.Int {
	x := api.Int{Mag: make([]uint32, n)}
	for i := range x.Mag {
		switch r.IntN(8) {
		case 0:
		case 1:
			x.Mag[i] = 1<<32 - 1
		case 2:
			x.Mag[i] = 1 << 31
		case 3:
			x.Mag[i] = 1<<31 - 1
		case 4:
			x.Mag[i] = uint32(r.IntN(3))
		default:
			x.Mag[i] = r.Uint32()
		}
	}
	if n > 0 {
		x.Mag[n-1] = max(x.Mag[n-1], 1)
		x.Neg = r.IntN(2) == 1
	}
	return x
}

// samples returns integers of many kinds, of both signs.
func samples() []api.Int {
	list := []api.Int{{}}
	add := func(x api.Int) {
		list = append(list, x, api.Int{Neg: true, Mag: slices.Clone(x.Mag)})
	}
	for _, s := range []string{"1", "2", "3", "7", "10", "18", "12", "255", "1000", "1000000000", "999999999", "123456789012345678901234567890"} {
		add(number(s))
	}
	for _, n := range []uint{16, 31, 32, 33, 62, 63, 64, 65, 95, 96, 128, 1000, maxBits / 2, maxBits - 1} {
		for plus := int64(-1); plus <= 1; plus++ {
			add(powerOfTwo(n, plus))
		}
	}
	add(largest())
	r := newRand()
	for _, n := range []int{1, 2, 2, 3, 3, 4, 5, 8, 17, 200, 256, 257, 511, 512} {
		x := randomInt(r, n)
		x.Neg = false
		add(x)
	}
	return list
}

// invalid returns integers that are not in normal form.
func invalid() []api.Int {
	tooLong := make([]uint32, api.MaxLimbs+1)
	tooLong[api.MaxLimbs] = 1
	return []api.Int{
		{Neg: true},
		{Neg: true, Mag: []uint32{}},
		{Mag: []uint32{0}},
		{Neg: true, Mag: []uint32{0}},
		{Mag: []uint32{1, 0}},
		{Neg: true, Mag: []uint32{5, 7, 0}},
		{Mag: tooLong},
		{Neg: true, Mag: tooLong},
		{Mag: make([]uint32, api.MaxLimbs)},
		{Mag: make([]uint32, api.MaxLimbs+1)},
	}
}

// checkResult checks that a result is valid and has a value; one that is too large must be ErrLong.
func checkResult(t *testing.T, name string, x api.Int, e api.Errno, want *big.Int) {
	t.Helper()
	if want.BitLen() > maxBits {
		if e != api.ErrLong || x.Neg || len(x.Mag) != 0 {
			t.Errorf("%s: error %d and %d limbs, want ErrLong", name, e, len(x.Mag))
		}
		return
	}
	if e != api.OK || !same(x, fromBig(want)) || !bigint.Valid(x) {
		t.Errorf("%s: error %d and %v, want %v", name, e, toBig(x), want)
	}
}

// checkError checks that an error has come, and the integer 0.
func checkError(t *testing.T, name string, x api.Int, e, want api.Errno) {
	t.Helper()
	if e != want || x.Neg || len(x.Mag) != 0 {
		t.Errorf("%s: error %d and %v, want error %d and 0", name, e, toBig(x), want)
	}
}
