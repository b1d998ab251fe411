package bigint_test

import (
	"math"
	"math/big"
	"slices"
	"strings"
	"testing"

	"barscan/api"
	"barscan/bigint"
)

// TestFormat checks P2.3.
func TestFormat(t *testing.T) {
	for _, x := range samples() {
		if s, want := bigint.Format(x), toBig(x).String(); s != want {
			t.Errorf("Format of %s is %s", want, s)
		}
	}
	for n := range 60 {
		for _, s := range []string{"1" + strings.Repeat("0", n), strings.Repeat("9", n+1), "1" + strings.Repeat("0", n) + "1"} {
			for _, s := range []string{s, "-" + s} {
				if f := bigint.Format(number(s)); f != s {
					t.Errorf("Format of %s is %s", s, f)
				}
			}
		}
	}
	if s := bigint.Format(bigint.Neg(largest())); len(s) != 4934 {
		t.Errorf("the longest text has %d bytes", len(s))
	}
	for _, x := range invalid() {
		if s := bigint.Format(x); s != "" {
			t.Errorf("Format of an invalid integer is %s", s)
		}
	}
}

// TestParse checks P2.3.
func TestParse(t *testing.T) {
	texts := []string{"0", "1", "-1", "-12", "9", "10", "-10", "4294967295", "4294967296", "-18446744073709551616", "99999999999999999999999999"}
	for n := range 40 {
		texts = append(texts, "1"+strings.Repeat("0", n), "-7"+strings.Repeat("3", n))
	}
	texts = append(texts, strings.Repeat("9", api.MaxDigits), "-"+strings.Repeat("9", api.MaxDigits), "1"+strings.Repeat("0", api.MaxDigits-1))
	for _, s := range texts {
		want, _ := new(big.Int).SetString(s, 10)
		x, e := bigint.Parse(s)
		checkResult(t, "Parse", x, e, want)
	}
}

func TestParseErrors(t *testing.T) {
	for _, s := range []string{
		"", "-", "--", "--1", "-0", "-00", "00", "007", "-07", "01", "+1", "+", "+0", "1 ", " 1", "- 1", "1-", "1-2", "1a", "a", "0x1", "0a", "1_0", "1.0", "1e3",
		"\u0661", "1\u0660", "\uff11", "1\x00", "\xff", "1\xff", "\x00", "/", ":", "1/", "1:",
	} {
		x, e := bigint.Parse(s)
		checkError(t, s, x, e, api.ErrForm)
	}
	for c := range 256 {
		if c < '0' || c > '9' {
			x, e := bigint.Parse("1" + string([]byte{byte(c)}) + "2")
			checkError(t, "a byte that is no digit", x, e, api.ErrForm)
		}
	}
	for _, s := range []string{
		strings.Repeat("1", api.MaxDigits+1),
		"-" + strings.Repeat("1", api.MaxDigits+1),
		strings.Repeat("0", api.MaxDigits+1),
		strings.Repeat("x", api.MaxDigits+1),
		"+" + strings.Repeat("1", api.MaxDigits),
		"--" + strings.Repeat("1", api.MaxDigits),
	} {
		x, e := bigint.Parse(s)
		checkError(t, s[:3], x, e, api.ErrLong)
	}
	for _, s := range []string{
		strings.Repeat("0", api.MaxDigits),
		"-" + strings.Repeat("0", api.MaxDigits),
		strings.Repeat("1", api.MaxDigits-1) + "x",
		"-" + strings.Repeat("1", api.MaxDigits-1) + "x",
		"--" + strings.Repeat("1", api.MaxDigits-1),
	} {
		x, e := bigint.Parse(s)
		checkError(t, s[:3], x, e, api.ErrForm)
	}
}

var bases = []int{2, 3, 7, 10, 16, 36, 62, 100, 256, 900, 929, 1000, 32768, 65535, 65536}

var badBases = []int{1, 0, -1, -2, 65537, 1 << 32, 1<<32 + 10, math.MaxInt, math.MinInt}

// digitsOf returns the digits of a number in a base, computed by the standard library.
func digitsOf(v *big.Int, base int) []int {
	if v.Sign() == 0 {
		return []int{0}
	}
	var l []int
	digit := new(big.Int)
	for rest := new(big.Int).Set(v); rest.Sign() != 0; {
		rest.DivMod(rest, big.NewInt(int64(base)), digit)
		l = append(l, int(digit.Int64()))
	}
	slices.Reverse(l)
	return l
}

// TestDigits checks P2.3.
func TestDigits(t *testing.T) {
	for _, x := range samples() {
		v := toBig(x)
		for _, base := range bases {
			l, e := bigint.Digits(x, base)
			if x.Neg {
				if len(l) != 0 || e != api.ErrArg {
					t.Errorf("Digits of %v in the base %d: %d digits, %d", v, base, len(l), e)
				}
				continue
			}
			want := digitsOf(v, base)
			if len(want) > api.MaxDigits {
				if len(l) != 0 || e != api.ErrLong {
					t.Errorf("%d digits in the base %d: %d digits, %d", len(want), base, len(l), e)
				}
			} else if !slices.Equal(l, want) || e != api.OK {
				t.Errorf("Digits of %v in the base %d are %v, %d", v, base, l, e)
			}
		}
	}
	if l, e := bigint.Digits(number("1000"), 900); !slices.Equal(l, []int{1, 100}) || e != api.OK {
		t.Error(l, e)
	}
	if l, e := bigint.Digits(number("255"), 16); !slices.Equal(l, []int{15, 15}) || e != api.OK {
		t.Error(l, e)
	}
}

func TestDigitsErrors(t *testing.T) {
	for _, x := range invalid() {
		for _, base := range append(badBases, 2, 10) {
			if l, e := bigint.Digits(x, base); len(l) != 0 || e != api.ErrArg {
				t.Errorf("an invalid integer in the base %d: %v, %d", base, l, e)
			}
		}
	}
	for _, base := range badBases {
		for _, x := range []api.Int{{}, number("5"), number("-5"), largest()} {
			if l, e := bigint.Digits(x, base); len(l) != 0 || e != api.ErrArg {
				t.Errorf("%v in the base %d: %v, %d", toBig(x), base, l, e)
			}
		}
	}
	if l, e := bigint.Digits(powerOfTwo(api.MaxDigits, -1), 2); len(l) != api.MaxDigits || slices.Contains(l, 0) || e != api.OK {
		t.Error(len(l), e)
	}
	if l, e := bigint.Digits(powerOfTwo(api.MaxDigits, 0), 2); len(l) != 0 || e != api.ErrLong {
		t.Error(len(l), e)
	}
	if l, e := bigint.Digits(powerOfTwo(maxBits, -1), 16); len(l) != api.MaxDigits || e != api.OK {
		t.Error(len(l), e)
	}
}

// TestFromDigits checks P2.3.
func TestFromDigits(t *testing.T) {
	r := newRand()
	for _, base := range bases {
		for _, n := range []int{0, 1, 2, 3, 10, 50, 500} {
			l := make([]int, n)
			want := new(big.Int)
			for i := range l {
				l[i] = []int{0, base - 1, r.IntN(base), r.IntN(base)}[r.IntN(4)]
				want.Mul(want, big.NewInt(int64(base))).Add(want, big.NewInt(int64(l[i])))
			}
			kept := slices.Clone(l)
			x, e := bigint.FromDigits(l, base)
			checkResult(t, "FromDigits", x, e, want)
			x, e = bigint.FromDigits(append(make([]int, 20), l...), base)
			checkResult(t, "FromDigits with leading zeros", x, e, want)
			if !slices.Equal(l, kept) {
				t.Error("the argument has changed")
			}
		}
		x, e := bigint.FromDigits(make([]int, api.MaxDigits), base)
		checkResult(t, "FromDigits of zeros", x, e, new(big.Int))
	}
	x, e := bigint.FromDigits([]int{0, 1, 0}, 2)
	checkResult(t, "FromDigits", x, e, big.NewInt(2))
}

func TestFromDigitsErrors(t *testing.T) {
	tooMany := make([]int, api.MaxDigits+1)
	tooManyBad := slices.Clone(tooMany)
	tooManyBad[5] = -1
	for _, base := range badBases {
		for _, l := range [][]int{nil, {0}, {-1}, tooMany} {
			x, e := bigint.FromDigits(l, base)
			checkError(t, "base", x, e, api.ErrArg)
		}
	}
	for _, base := range bases {
		for _, l := range [][]int{tooMany, tooManyBad} {
			x, e := bigint.FromDigits(l, base)
			checkError(t, "too many digits", x, e, api.ErrLong)
		}
		for _, bad := range []int{-1, base, base + 1, math.MaxInt, math.MinInt, 1 << 32, 1<<32 + 1} {
			for _, l := range [][]int{{bad}, {bad, 0}, {0, bad}, {1, 1, bad, 1}} {
				x, e := bigint.FromDigits(l, base)
				checkError(t, "a digit out of range", x, e, api.ErrRange)
			}
		}
	}
}

func TestFromDigitsLimit(t *testing.T) {
	most := slices.Repeat([]int{65535}, 2*api.MaxLimbs)
	x, e := bigint.FromDigits(most, 65536)
	checkResult(t, "the largest integer", x, e, toBig(largest()))
	x, e = bigint.FromDigits(append(make([]int, 100), most...), 65536)
	checkResult(t, "the largest integer", x, e, toBig(largest()))
	above := append([]int{1}, make([]int, 2*api.MaxLimbs)...)
	x, e = bigint.FromDigits(above, 65536)
	checkError(t, "too large", x, e, api.ErrLong)
	// A digit out of range is named before a result that is too large.
	x, e = bigint.FromDigits(append(above, 65536), 65536)
	checkError(t, "too large, and out of range", x, e, api.ErrRange)
	x, e = bigint.FromDigits(slices.Repeat([]int{65535}, api.MaxDigits), 65536)
	checkError(t, "too large", x, e, api.ErrLong)
}
