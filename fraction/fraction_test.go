package fraction_test

import (
	"math"
	"math/big"
	"testing"

	"barscan/api"
	"barscan/fraction"
)

// TestValid checks P3.1.
func TestValid(t *testing.T) {
	for _, x := range samples() {
		if !fraction.Valid(x) {
			t.Errorf("%v is not valid", ratOf(x))
		}
	}
	for i, x := range invalid() {
		if fraction.Valid(x) {
			t.Errorf("invalid fraction %d is valid: %v", i, x)
		}
	}
	if !fraction.Valid(api.Frac{Num: api.Int{Mag: []uint32{}}, Den: api.Int{Mag: []uint32{1}}}) {
		t.Error("0/1 with an empty magnitude that is not nil is not valid")
	}
}

// TestNew checks P3.1.
func TestNew(t *testing.T) {
	list := []*big.Int{new(big.Int)}
	r := newRand()
	for _, v := range []*big.Int{big.NewInt(1), big.NewInt(2), big.NewInt(4), big.NewInt(6), big.NewInt(30), power(32, 0), power(64, -1), power(100, 2), randomBig(r, 500), randomBig(r, maxBits-1), power(maxBits-1, 0), longest()} {
		list = append(list, v, new(big.Int).Neg(v))
	}
	for _, a := range list {
		for _, b := range list {
			x, e := fraction.New(intOf(a), intOf(b))
			if b.Sign() == 0 {
				checkError(t, "New", x, e, api.ErrZero)
				continue
			}
			checkResult(t, "New", x, e, new(big.Rat).SetFrac(a, b))
		}
	}
	if x, e := fraction.New(intOf(big.NewInt(6)), intOf(big.NewInt(-4))); e != api.OK || !same(x, frac("-3/2")) {
		t.Error(x, e)
	}
}

func TestNewErrors(t *testing.T) {
	one := intOf(big.NewInt(1))
	for _, bad := range badInts() {
		for _, p := range [][2]api.Int{{bad, one}, {one, bad}, {bad, {}}, {{}, bad}, {bad, bad}} {
			x, e := fraction.New(p[0], p[1])
			checkError(t, "New", x, e, api.ErrArg)
		}
	}
}

// TestOf checks P3.1.
func TestOf(t *testing.T) {
	list := []int{0, 1, -1, 2, 3, 4, -6, 12, 1 << 32, -1 << 32, math.MaxInt - 1, math.MaxInt, -math.MaxInt, math.MinInt + 1, math.MinInt}
	for _, a := range list {
		for _, b := range list {
			x, e := fraction.Of(a, b)
			if b == 0 {
				checkError(t, "Of", x, e, api.ErrZero)
				continue
			}
			checkResult(t, "Of", x, e, new(big.Rat).SetFrac(big.NewInt(int64(a)), big.NewInt(int64(b))))
		}
	}
	if x, e := fraction.Of(math.MinInt, math.MinInt); e != api.OK || !same(x, frac("1")) {
		t.Error(x, e)
	}
}

// TestCmp checks P3.3.
func TestCmp(t *testing.T) {
	list := samples()
	for _, a := range list {
		for _, b := range list {
			if c, e := fraction.Cmp(a, b); e != api.OK || c != ratOf(a).Cmp(ratOf(b)) {
				t.Errorf("Cmp of %v and %v is %d, %d", ratOf(a), ratOf(b), c, e)
			}
		}
	}
}

// TestCmpNeighbours checks P3.3 for fractions that differ as little as fractions at the limit can.
func TestCmpNeighbours(t *testing.T) {
	r := newRand()
	for range 20 {
		b, d := randomBig(r, maxBits), randomBig(r, maxBits)
		a := new(big.Int).ModInverse(d, b)
		if a == nil {
			continue
		}
		// a*d - b*c is 1, so that a/b is greater than c/d by 1/(b*d).
		c := new(big.Int).Mul(a, d)
		c.Sub(c, big.NewInt(1)).Div(c, b)
		x, y := quotientOf(a, b), quotientOf(c, d)
		if n, e := fraction.Cmp(x, y); n != 1 || e != api.OK {
			t.Error(n, e)
		}
		if n, e := fraction.Cmp(y, x); n != -1 || e != api.OK {
			t.Error(n, e)
		}
		if n, e := fraction.Cmp(x, x); n != 0 || e != api.OK {
			t.Error(n, e)
		}
	}
}

// TestFloor checks P3.3.
func TestFloor(t *testing.T) {
	for _, x := range samples() {
		want := new(big.Int).Div(bigOf(x.Num), bigOf(x.Den))
		if n, e := fraction.Floor(x); e != api.OK || !sameInt(n, intOf(want)) {
			t.Errorf("Floor of %v is %v, %d", ratOf(x), bigOf(n), e)
		}
	}
	for s, want := range map[string]int64{"-7/2": -4, "7/2": 3, "-4": -4, "0": 0, "-1/9": -1, "1/9": 0} {
		if n, e := fraction.Floor(frac(s)); e != api.OK || !sameInt(n, intOf(big.NewInt(want))) {
			t.Errorf("Floor of %s is %v, %d", s, bigOf(n), e)
		}
	}
}

// TestRound checks P3.3.
func TestRound(t *testing.T) {
	list := samples()
	for _, v := range []*big.Int{power(maxBits, -3), power(maxBits, -1), power(maxBits-1, 1)} {
		list = append(list, quotientOf(v, big.NewInt(2)), quotientOf(new(big.Int).Neg(v), big.NewInt(2)))
		list = append(list, quotientOf(power(maxBits-1, 0), v), quotientOf(power(maxBits-1, -1), v))
	}
	for _, x := range list {
		// The floor of (2*Num + Den) / (2*Den).
		above := new(big.Int).Lsh(bigOf(x.Num), 1)
		above.Add(above, bigOf(x.Den))
		want := above.Div(above, new(big.Int).Lsh(bigOf(x.Den), 1))
		if n, e := fraction.Round(x); e != api.OK || !sameInt(n, intOf(want)) {
			t.Errorf("Round of %v is %v, %d", ratOf(x), bigOf(n), e)
		}
	}
	for s, want := range map[string]int64{"5/2": 3, "-5/2": -2, "1/2": 1, "-1/2": 0, "-3/4": -1, "7/3": 2, "8/3": 3, "-7/3": -2, "-8/3": -3, "0": 0, "-6": -6} {
		if n, e := fraction.Round(frac(s)); e != api.OK || !sameInt(n, intOf(big.NewInt(want))) {
			t.Errorf("Round of %s is %v, %d", s, bigOf(n), e)
		}
	}
}

func TestOrderErrors(t *testing.T) {
	half := frac("1/2")
	for i, bad := range invalid() {
		for _, p := range [][2]api.Frac{{bad, half}, {half, bad}, {bad, bad}} {
			if c, e := fraction.Cmp(p[0], p[1]); c != 0 || e != api.ErrArg {
				t.Errorf("Cmp with invalid fraction %d: %d, %d", i, c, e)
			}
		}
		for name, f := range map[string]func(api.Frac) (api.Int, api.Errno){"Floor": fraction.Floor, "Round": fraction.Round} {
			if n, e := f(bad); e != api.ErrArg || n.Neg || len(n.Mag) != 0 {
				t.Errorf("%s of invalid fraction %d: %v, %d", name, i, n, e)
			}
		}
	}
}
