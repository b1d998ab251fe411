package ean

import (
	"barscan/api"
	"barscan/checkdigit"
)

// sizeOf returns the number of digits of a complete text, or 0 for what is not a kind.
func sizeOf(kind api.SymOp) int {
	switch kind {
	case api.EAN13:
		return 13
	case api.EAN8, api.UPCE:
		return 8
	case api.UPCA:
		return 12
	}
	return 0
}

// faultOf returns the error of a text that may lack that many digits at its end, of which the check digit is the last one.
func faultOf(kind api.SymOp, text string, lacks int) api.Errno {
	size := sizeOf(kind)
	switch {
	case size == 0:
		return api.ErrArg
	case !isDigits(text):
		return api.ErrChar
	case len(text) > size || len(text) < size-lacks:
		return api.ErrLength
	case kind == api.UPCE && text[0] > '1':
		return api.ErrForm
	case len(text) == size && text[size-1:] != checkDigit(kind, text[:size-1]):
		return api.ErrCheck
	}
	return api.OK
}

// isDigits returns whether all bytes of a text are digits.
func isDigits(text string) bool {
	for i := range len(text) {
		if text[i] < '0' || text[i] > '9' {
			return false
		}
	}
	return true
}

// checkDigit returns the check digit of the digits before it.
func checkDigit(kind api.SymOp, digits string) string {
	if kind == api.UPCE {
		digits = expanded(digits)
	}
	check, _ := checkdigit.Compute(api.CheckGS1, digits)
	return check
}

// expanded returns the UPC-A text to which a UPC-E text expands; the check digit may be missing in both.
func expanded(upce string) string {
	n, digits, f, check := upce[:1], upce[1:6], upce[6:7], upce[7:]
	switch f {
	case "0", "1", "2":
		return n + digits[:2] + f + "0000" + digits[2:] + check
	case "3":
		return n + digits[:3] + "00000" + digits[3:] + check
	case "4":
		return n + digits[:4] + "00000" + digits[4:] + check
	}
	return n + digits + "0000" + f + check
}

// compressed returns the UPC-E text that expands to a UPC-A text by the first possible rule, or the empty string if there is none.
func compressed(upca string) string {
	n, check := upca[:1], upca[11:]
	switch {
	case upca[3] <= '2' && upca[4:8] == "0000":
		return n + upca[1:3] + upca[8:11] + upca[3:4] + check
	case upca[4:9] == "00000":
		return n + upca[1:4] + upca[9:11] + "3" + check
	case upca[5:10] == "00000":
		return n + upca[1:5] + upca[10:11] + "4" + check
	case upca[6:10] == "0000" && upca[10] >= '5':
		return n + upca[1:6] + upca[10:11] + check
	}
	return ""
}
