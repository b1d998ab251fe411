package bigint_test

import (
	"math"
	"math/big"
	"slices"
	"testing"

	"barscan/api"
	"barscan/bigint"
)

var ints = []int{0, 1, -1, 2, -2, 9, 10, -10, 255, 65536, 1<<31 - 1, 1 << 31, -1 << 31, 1<<32 - 1, 1 << 32, 1<<32 + 1, -1<<32 - 1, 1<<62 + 12345, math.MaxInt - 1, math.MaxInt, -math.MaxInt, math.MinInt + 1, math.MinInt}

// TestValid checks P2.1.
func TestValid(t *testing.T) {
	for _, x := range samples() {
		if !bigint.Valid(x) {
			t.Errorf("%v is not valid", toBig(x))
		}
	}
	for _, x := range invalid() {
		if bigint.Valid(x) {
			t.Errorf("Neg %v with %d limbs is valid", x.Neg, len(x.Mag))
		}
	}
	if !bigint.Valid(api.Int{Mag: []uint32{}}) {
		t.Error("0 with an empty magnitude that is not nil is not valid")
	}
}

// TestFromInt checks P2.1.
func TestFromInt(t *testing.T) {
	for _, n := range ints {
		if x := bigint.FromInt(n); !same(x, fromBig(big.NewInt(int64(n)))) || !bigint.Valid(x) {
			t.Errorf("FromInt(%d) = %v", n, x)
		}
	}
	if x := bigint.FromInt(-1); !x.Neg || !slices.Equal(x.Mag, []uint32{1}) {
		t.Error(x)
	}
	if x := bigint.FromInt(1 << 32); x.Neg || !slices.Equal(x.Mag, []uint32{0, 1}) {
		t.Error(x)
	}
}

// TestToInt checks P2.1.
func TestToInt(t *testing.T) {
	for _, n := range ints {
		if m, e := bigint.ToInt(fromBig(big.NewInt(int64(n)))); m != n || e != api.OK {
			t.Errorf("ToInt of %d is %d, %d", n, m, e)
		}
	}
	for _, x := range samples() {
		n, e := bigint.ToInt(x)
		if v := toBig(x); v.IsInt64() {
			if int64(n) != v.Int64() || e != api.OK {
				t.Errorf("ToInt of %v is %d, %d", v, n, e)
			}
		} else if n != 0 || e != api.ErrOverflow {
			t.Errorf("ToInt of %v is %d, %d", v, n, e)
		}
	}
	for _, s := range []string{"9223372036854775808", "-9223372036854775809", "18446744073709551615", "-18446744073709551615", "18446744073709551616", "-18446744073709551616", "79228162514264337593543950336"} {
		if n, e := bigint.ToInt(number(s)); n != 0 || e != api.ErrOverflow {
			t.Errorf("ToInt of %s is %d, %d", s, n, e)
		}
	}
	for _, x := range invalid() {
		if n, e := bigint.ToInt(x); n != 0 || e != api.ErrArg {
			t.Errorf("ToInt of an invalid integer is %d, %d", n, e)
		}
	}
}

// TestCmp checks P2.1.
func TestCmp(t *testing.T) {
	list := samples()
	for _, a := range list {
		for _, b := range list {
			if c, want := bigint.Cmp(a, b), toBig(a).Cmp(toBig(b)); c != want {
				t.Errorf("Cmp of %v and %v is %d", toBig(a), toBig(b), c)
			}
		}
	}
	for _, x := range invalid() {
		for _, y := range append(invalid(), number("-5"), number("5"), api.Int{}) {
			if c, d := bigint.Cmp(x, y), bigint.Cmp(y, x); c != 0 || d != 0 {
				t.Errorf("Cmp with an invalid integer is %d, and %d", c, d)
			}
		}
	}
}

// TestNeg checks P2.1.
func TestNeg(t *testing.T) {
	for _, x := range samples() {
		y := bigint.Neg(x)
		checkResult(t, "Neg", y, api.OK, new(big.Int).Neg(toBig(x)))
		if z := bigint.Neg(y); !same(z, x) {
			t.Errorf("Neg twice of %v is %v", toBig(x), toBig(z))
		}
	}
	for _, x := range invalid() {
		if y := bigint.Neg(x); y.Neg || len(y.Mag) != 0 {
			t.Errorf("Neg of an invalid integer is %v", toBig(y))
		}
	}
}

// TestArithmetic checks P2.2.
func TestArithmetic(t *testing.T) {
	list := samples()
	for _, a := range list {
		for _, b := range list {
			checkPair(t, a, b)
		}
	}
	r := newRand()
	for range 20000 {
		checkPair(t, randomInt(r, r.IntN(9)), randomInt(r, r.IntN(9)))
	}
}

// checkPair checks all functions of two integers.
func checkPair(t *testing.T, a, b api.Int) {
	t.Helper()
	v, w := toBig(a), toBig(b)
	x, e := bigint.Add(a, b)
	checkResult(t, "Add", x, e, new(big.Int).Add(v, w))
	x, e = bigint.Sub(a, b)
	checkResult(t, "Sub", x, e, new(big.Int).Sub(v, w))
	x, e = bigint.Mul(a, b)
	checkResult(t, "Mul", x, e, new(big.Int).Mul(v, w))
	x, e = bigint.GCD(a, b)
	checkResult(t, "GCD", x, e, new(big.Int).GCD(nil, nil, new(big.Int).Abs(v), new(big.Int).Abs(w)))
	q, m, e := bigint.DivMod(a, b)
	if w.Sign() == 0 {
		checkError(t, "DivMod", q, e, api.ErrZero)
		checkError(t, "DivMod", m, e, api.ErrZero)
		return
	}
	floor, rest := new(big.Int).QuoRem(v, w, new(big.Int))
	if rest.Sign() != 0 && rest.Sign() != w.Sign() {
		floor.Sub(floor, big.NewInt(1))
		rest.Add(rest, w)
	}
	checkResult(t, "quotient", q, e, floor)
	checkResult(t, "remainder", m, e, rest)
}

func TestArithmeticExamples(t *testing.T) {
	for _, x := range []struct{ a, b, q, r string }{
		{"-7", "2", "-4", "1"},
		{"7", "-2", "-4", "-1"},
		{"7", "2", "3", "1"},
		{"-7", "-2", "3", "-1"},
		{"-8", "2", "-4", "0"},
		{"0", "-5", "0", "0"},
		{"-1", "100000000000000000000", "-1", "99999999999999999999"},
	} {
		q, r, e := bigint.DivMod(number(x.a), number(x.b))
		if !same(q, number(x.q)) || !same(r, number(x.r)) || e != api.OK {
			t.Errorf("DivMod(%s, %s) = %v, %v, %d", x.a, x.b, toBig(q), toBig(r), e)
		}
	}
	x, e := bigint.Mul(number("4294967295"), number("4294967295"))
	if !same(x, number("18446744065119617025")) || !slices.Equal(x.Mag, []uint32{1, 4294967294}) || e != api.OK {
		t.Error(x, e)
	}
	if x, e := bigint.GCD(number("12"), number("-18")); !same(x, number("6")) || e != api.OK {
		t.Error(x, e)
	}
	x, e = bigint.Pow(number("2"), 100)
	if !same(x, number("1267650600228229401496703205376")) || !slices.Equal(x.Mag, []uint32{0, 0, 0, 16}) || e != api.OK {
		t.Error(x, e)
	}
}

func TestArithmeticArguments(t *testing.T) {
	for _, x := range invalid() {
		for _, y := range append(invalid(), number("-5"), largest(), api.Int{}) {
			for _, p := range [][2]api.Int{{x, y}, {y, x}} {
				z, e := bigint.Add(p[0], p[1])
				checkError(t, "Add", z, e, api.ErrArg)
				z, e = bigint.Sub(p[0], p[1])
				checkError(t, "Sub", z, e, api.ErrArg)
				z, e = bigint.Mul(p[0], p[1])
				checkError(t, "Mul", z, e, api.ErrArg)
				z, e = bigint.GCD(p[0], p[1])
				checkError(t, "GCD", z, e, api.ErrArg)
				q, r, e := bigint.DivMod(p[0], p[1])
				checkError(t, "DivMod", q, e, api.ErrArg)
				checkError(t, "DivMod", r, e, api.ErrArg)
			}
		}
		for _, n := range []int{-1, 0, 1, 2, math.MaxInt} {
			z, e := bigint.Pow(x, n)
			checkError(t, "Pow", z, e, api.ErrArg)
		}
	}
}

func TestLargestResults(t *testing.T) {
	one, top := number("1"), largest()
	low := bigint.Neg(top)
	for _, x := range []struct {
		name string
		f    func(a, b api.Int) (api.Int, api.Errno)
		a, b api.Int
		want api.Errno
	}{
		{"Add", bigint.Add, top, one, api.ErrLong},
		{"Add", bigint.Add, low, bigint.Neg(one), api.ErrLong},
		{"Add", bigint.Add, top, low, api.OK},
		{"Add", bigint.Add, powerOfTwo(maxBits, -2), one, api.OK},
		{"Sub", bigint.Sub, low, one, api.ErrLong},
		{"Sub", bigint.Sub, top, bigint.Neg(one), api.ErrLong},
		{"Sub", bigint.Sub, top, top, api.OK},
		{"Mul", bigint.Mul, top, low, api.ErrLong},
		{"Mul", bigint.Mul, top, one, api.OK},
		{"Mul", bigint.Mul, powerOfTwo(maxBits-1, 0), number("2"), api.ErrLong},
		{"Mul", bigint.Mul, powerOfTwo(maxBits/2, 0), powerOfTwo(maxBits/2, 0), api.ErrLong},
		{"Mul", bigint.Mul, powerOfTwo(maxBits/2, 0), powerOfTwo(maxBits/2, -1), api.OK},
		{"Mul", bigint.Mul, powerOfTwo(maxBits/2, 1), powerOfTwo(maxBits/2, -1), api.OK},
	} {
		y, e := x.f(x.a, x.b)
		if e != x.want {
			t.Errorf("%s: error %d, want %d", x.name, e, x.want)
		}
		if e != api.OK && (y.Neg || len(y.Mag) != 0) {
			t.Errorf("%s: a result together with an error", x.name)
		}
	}
}

// TestPow checks P2.2.
func TestPow(t *testing.T) {
	for _, a := range samples() {
		for _, n := range []int{0, 1, 2, 3, 4, 5, 7, 8, 15, 31, 64, 100} {
			x, e := bigint.Pow(a, n)
			checkResult(t, "Pow", x, e, new(big.Int).Exp(toBig(a), big.NewInt(int64(n)), nil))
		}
		for _, n := range []int{-1, -2, math.MinInt} {
			x, e := bigint.Pow(a, n)
			checkError(t, "Pow", x, e, api.ErrArg)
		}
	}
	for _, x := range []struct{ a, most int }{
		{2, 16383}, {-2, 16383}, {3, 10337}, {-3, 10337}, {10, 4932}, {-10, 4932}, {65535, 1024}, {65536, 1023}, {65537, 1023}, {1<<32 - 1, 512}, {1 << 32, 511}, {1 << 62, 264}, {math.MinInt, 260},
	} {
		a := fromBig(big.NewInt(int64(x.a)))
		want := new(big.Int).Exp(big.NewInt(int64(x.a)), big.NewInt(int64(x.most)), nil)
		y, e := bigint.Pow(a, x.most)
		checkResult(t, "Pow", y, e, want)
		if want.BitLen() > maxBits || want.Mul(want, big.NewInt(int64(x.a))).BitLen() <= maxBits {
			t.Errorf("%d is not the greatest exponent of %d", x.most, x.a)
		}
		for _, n := range []int{x.most + 1, x.most + 2, 2 * x.most, 16384, 1 << 20, 1 << 32, math.MaxInt - 1, math.MaxInt} {
			y, e := bigint.Pow(a, n)
			checkError(t, "Pow", y, e, api.ErrLong)
		}
	}
}

func TestPowOfUnits(t *testing.T) {
	for _, x := range []struct{ a, n, want int }{
		{0, 0, 1}, {0, 1, 0}, {0, 2, 0}, {0, math.MaxInt, 0}, {0, 16384, 0},
		{1, 0, 1}, {1, 1, 1}, {1, 16384, 1}, {1, math.MaxInt, 1},
		{-1, 0, 1}, {-1, 1, -1}, {-1, 2, 1}, {-1, 16384, 1}, {-1, 16385, -1}, {-1, math.MaxInt, -1}, {-1, math.MaxInt - 1, 1},
	} {
		y, e := bigint.Pow(fromBig(big.NewInt(int64(x.a))), x.n)
		checkResult(t, "Pow", y, e, big.NewInt(int64(x.want)))
	}
}

// TestDivisionSteps checks divisors and dividends for which a digit of the quotient is easily guessed wrong.
func TestDivisionSteps(t *testing.T) {
	for _, x := range [][2][]uint32{
		{{3, 0, 0x80000000}, {1, 0, 0x20000000}},
		{{0, 0, 0x8000, 0x7fff}, {1, 0, 0x8000}},
		{{0, 0xfffffffe, 0x80000000}, {0xffffffff, 0x80000000}},
		{{0xffffffff, 0xffffffff, 0xffffffff, 0xffffffff}, {0xffffffff, 0xffffffff}},
		{{0, 0, 0, 0x80000000}, {0xffffffff, 0xffffffff, 0x7fffffff}},
		{{0, 0, 0x80000000, 0x7fffffff}, {1, 0, 0x80000000}},
		{{0, 0, 0, 1}, {1, 1}},
		{{0xffffffff, 0, 0, 0x80000000}, {0xffffffff, 0, 0x80000000}},
	} {
		checkPair(t, api.Int{Mag: x[0]}, api.Int{Mag: x[1]})
	}
	r := newRand()
	for range 30000 {
		b := randomInt(r, 2+r.IntN(4))
		q, rest := randomInt(r, 1+r.IntN(4)), randomInt(r, r.IntN(3))
		v := new(big.Int).Mul(toBig(b), toBig(q))
		checkPair(t, fromBig(v.Add(v, toBig(rest))), b)
	}
}

// TestLongDivisors checks divisors of long integers that have a known common factor.
func TestLongDivisors(t *testing.T) {
	r := newRand()
	for range 300 {
		c := randomInt(r, 1+r.IntN(200))
		a, b := toBig(randomInt(r, 1+r.IntN(300))), toBig(randomInt(r, 1+r.IntN(300)))
		checkPair(t, fromBig(a.Mul(a, toBig(c))), fromBig(b.Mul(b, toBig(c))))
	}
	// Neighbouring Fibonacci numbers need the most steps; their quotients are all 1.
	v, w := big.NewInt(0), big.NewInt(1)
	for v.BitLen() < maxBits {
		if v.BitLen()%64 == 0 || v.BitLen() < 100 || v.BitLen() > maxBits-3 {
			checkPair(t, fromBig(v), fromBig(w))
		}
		v, w = w, v.Add(v, w)
		if w.BitLen() > maxBits {
			break
		}
	}
}
