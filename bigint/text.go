package bigint

import (
	"slices"
	"strings"

	"barscan/api"
)

// The decimal digits are made in groups, because a limb holds a number of nine digits.
const (
	groupDigits = 9
	groupBase   = 1000000000
)

// Format returns the decimal digits of an integer.
func Format(x api.Int) string {
	if !Valid(x) {
		return ""
	}
	if len(x.Mag) == 0 {
		return "0"
	}
	var out []byte
	mag, group := clone(x.Mag), uint32(0)
	for len(mag) > 0 {
		mag, group = divideLimb(mag, groupBase)
		out = appendGroup(out, group)
	}
	for out[len(out)-1] == '0' {
		out = out[:len(out)-1]
	}
	if x.Neg {
		out = append(out, '-')
	}
	slices.Reverse(out)
	return string(out)
}

// appendGroup appends the digits of a group, the least significant one first.
func appendGroup(out []byte, group uint32) []byte {
	for range groupDigits {
		out = append(out, byte('0'+group%10))
		group /= 10
	}
	return out
}

// Parse returns the integer with the decimal digits.
func Parse(s string) (api.Int, api.Errno) {
	digits, neg := strings.CutPrefix(s, "-")
	if len(digits) > api.MaxDigits {
		return api.Int{}, api.ErrLong
	}
	if digits == "" || digits[0] == '0' && (len(digits) > 1 || neg) {
		return api.Int{}, api.ErrForm
	}
	var mag []uint32
	for _, r := range digits {
		if r < '0' || r > '9' {
			return api.Int{}, api.ErrForm
		}
		mag = multiplyAdd(mag, 10, uint32(r-'0'))
	}
	return signed(neg, mag), api.OK
}

// Digits returns the digits of a non-negative integer in a base, the most significant first.
func Digits(x api.Int, base int) ([]int, api.Errno) {
	if !Valid(x) || x.Neg || !isBase(base) {
		return nil, api.ErrArg
	}
	if len(x.Mag) == 0 {
		return []int{0}, api.OK
	}
	var out []int
	mag, digit := clone(x.Mag), uint32(0)
	for len(mag) > 0 {
		if len(out) == api.MaxDigits {
			return nil, api.ErrLong
		}
		mag, digit = divideLimb(mag, uint32(base))
		out = append(out, int(digit))
	}
	slices.Reverse(out)
	return out, api.OK
}

// FromDigits returns the integer with the digits in a base, the most significant first.
func FromDigits(l []int, base int) (api.Int, api.Errno) {
	if !isBase(base) {
		return api.Int{}, api.ErrArg
	}
	if len(l) > api.MaxDigits {
		return api.Int{}, api.ErrLong
	}
	for _, digit := range l {
		if digit < 0 || digit >= base {
			return api.Int{}, api.ErrRange
		}
	}
	var mag []uint32
	for _, digit := range l {
		mag = multiplyAdd(mag, uint32(base), uint32(digit))
		if len(mag) > api.MaxLimbs {
			return api.Int{}, api.ErrLong
		}
	}
	return signed(false, mag), api.OK
}

// isBase reports whether digits in a base are possible.
func isBase(base int) bool {
	return base >= 2 && base <= 65536
}
