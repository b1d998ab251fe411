package fraction_test

import (
	"math/big"
	"strings"
	"testing"

	"barscan/api"
	"barscan/fraction"
)

// TestFormat checks P3.4.
func TestFormat(t *testing.T) {
	for _, x := range samples() {
		want := ratOf(x).Num().String()
		if den := ratOf(x).Denom().String(); den != "1" {
			want += "/" + den
		}
		if s := fraction.Format(x); s != want {
			t.Errorf("Format gives %s, want %s", s, want)
		}
	}
	for _, s := range []string{"-3/4", "5", "0", "-1", "1/10", "-10/3"} {
		if got := fraction.Format(frac(s)); got != s {
			t.Errorf("Format gives %s, want %s", got, s)
		}
	}
	for i, x := range invalid() {
		if s := fraction.Format(x); s != "" {
			t.Errorf("Format of invalid fraction %d is %s", i, s)
		}
	}
}

// TestParse checks P3.4.
func TestParse(t *testing.T) {
	for s, want := range map[string]string{"6/4": "3/2", "-6/4": "-3/2", "7": "7", "-7/1": "-7", "0": "0", "0/9": "0", "10/5": "2", "1/2": "1/2", "18446744073709551616/4294967296": "4294967296"} {
		if x, e := fraction.Parse(s); e != api.OK || !same(x, frac(want)) {
			t.Errorf("Parse(%s) is %s, %d", s, fraction.Format(x), e)
		}
	}
	digits := strings.Repeat("9", api.MaxDigits)
	long, _ := new(big.Int).SetString(digits, 10)
	for s, want := range map[string]*big.Rat{
		digits:                new(big.Rat).SetInt(long),
		"-" + digits:          new(big.Rat).Neg(new(big.Rat).SetInt(long)),
		"9/" + digits:         new(big.Rat).SetFrac(big.NewInt(9), long),
		digits + "/" + digits: big.NewRat(1, 1),
	} {
		x, e := fraction.Parse(s)
		checkResult(t, "Parse", x, e, want)
	}
}

func TestParseErrors(t *testing.T) {
	tooLong := strings.Repeat("1", api.MaxDigits+1)
	for _, c := range []struct {
		s    string
		want api.Errno
	}{
		{"", api.ErrForm},
		{"/", api.ErrForm},
		{"1/", api.ErrForm},
		{"/2", api.ErrForm},
		{"-", api.ErrForm},
		{"-/2", api.ErrForm},
		{"-0", api.ErrForm},
		{"-0/2", api.ErrForm},
		{"+1", api.ErrForm},
		{"01/2", api.ErrForm},
		{"1/02", api.ErrForm},
		{"1/+2", api.ErrForm},
		{"1/-2", api.ErrForm},
		{"1/-0", api.ErrForm},
		{"1/2/3", api.ErrForm},
		{"1//2", api.ErrForm},
		{"1 /2", api.ErrForm},
		{"1/ 2", api.ErrForm},
		{"1/a", api.ErrForm},
		{"1/\u0661", api.ErrForm},
		{"1\\2", api.ErrForm},
		{"1/0", api.ErrZero},
		{"0/0", api.ErrZero},
		{"-5/0", api.ErrZero},
		{"x/0", api.ErrForm},
		{"x/" + tooLong, api.ErrForm},
		{tooLong, api.ErrLong},
		{"-" + tooLong, api.ErrLong},
		{tooLong + "/0", api.ErrLong},
		{tooLong + "/-1", api.ErrLong},
		{tooLong + "/x", api.ErrLong},
		{"1/" + tooLong, api.ErrLong},
		{"1/-" + tooLong, api.ErrForm},
		{"1/" + tooLong + "x", api.ErrLong},
	} {
		x, e := fraction.Parse(c.s)
		if e != c.want || !isZeroValue(x) {
			t.Errorf("Parse(%.20s) is error %d, want %d", c.s, e, c.want)
		}
	}
}
