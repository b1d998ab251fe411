package checkdigit

import (
	"strings"

	"barscan/api"
)

// The characters of the systems, each at the index that is its value.
const (
	decimal   = "0123456789"
	elevenths = decimal + "X"
	code39Set = decimal + "ABCDEFGHIJKLMNOPQRSTUVWXYZ-. $/+%"
)

// A system is one way to compute check characters.
type system interface {
	size() int                  // the number of check characters
	fits(n int) bool            // whether the data can have n characters, for a positive n
	data() string               // the characters of the data
	checks() string             // the characters that a check character can be
	compute(data string) string // the check characters of data that have these characters and fit
}

// systemOf returns the system with the number k, and whether there is one.
func systemOf(k api.CheckOp) (system, bool) {
	switch k {
	case api.CheckGS1:
		return gs1{}, true
	case api.CheckLuhn:
		return luhn{}, true
	case api.CheckISBN:
		return isbn{}, true
	case api.CheckVerhoeff:
		return verhoeff{}, true
	case api.CheckDamm:
		return damm{}, true
	case api.CheckISO97:
		return iso97{}, true
	case api.CheckCode39:
		return code39{}, true
	case api.CheckISO11:
		return iso11{}, true
	}
	return nil, false
}

// oneDigit is what most systems have in common: one check digit for any number of digits. A system that differs embeds it, too, and replaces some of its methods.
type oneDigit struct{}

func (oneDigit) size() int { return 1 }

func (oneDigit) fits(int) bool { return true }

func (oneDigit) data() string { return decimal }

func (oneDigit) checks() string { return decimal }

type gs1 struct{ oneDigit }

func (gs1) compute(data string) string {
	return character(decimal, -weightedSum(data, []int{3, 1}, 10))
}

type luhn struct{ oneDigit }

func (luhn) compute(data string) string {
	sum := 0
	for i := range len(data) {
		d := digit(data, len(data)-1-i)
		if i%2 == 0 {
			d = sumOfDigits(2 * d)
		}
		sum += d
	}
	return character(decimal, -sum)
}

type isbn struct{ oneDigit }

func (isbn) fits(n int) bool { return n == 9 }

func (isbn) checks() string { return elevenths }

func (isbn) compute(data string) string {
	return character(elevenths, -weightedSum(data, []int{2, 3, 4, 5, 6, 7, 8, 9, 10}, 11))
}

type verhoeff struct{ oneDigit }

func (verhoeff) compute(data string) string {
	c := 0
	for i := range len(data) {
		c = dihedral(c, permuted(digit(data, len(data)-1-i), i+1))
	}
	return character(decimal, inverse(c))
}

type damm struct{ oneDigit }

func (damm) compute(data string) string {
	c := 0
	for i := range len(data) {
		c = quasigroup[c][digit(data, i)]
	}
	return character(decimal, c)
}

type iso97 struct{ oneDigit }

func (iso97) size() int { return 2 }

func (iso97) compute(data string) string {
	n := 0
	for i := range len(data) {
		n = (10*n + digit(data, i)) % 97
	}
	check := 98 - 100*n%97
	return character(decimal, check/10) + character(decimal, check)
}

type code39 struct{ oneDigit }

func (code39) data() string { return code39Set }

func (code39) checks() string { return code39Set }

func (code39) compute(data string) string {
	sum := 0
	for i := range len(data) {
		sum += strings.IndexByte(code39Set, data[i])
	}
	return character(code39Set, sum)
}

type iso11 struct{ oneDigit }

func (iso11) checks() string { return elevenths }

func (iso11) compute(data string) string {
	p := 0
	for i := range len(data) {
		p = 2 * (p + digit(data, i)) % 11
	}
	return character(elevenths, 12-p)
}
