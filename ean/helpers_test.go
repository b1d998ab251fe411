package ean_test

import (
	"math/rand/v2"
	"slices"
	"strings"
	"testing"

	"barscan/api"
	"barscan/ean"
)

// kinds are the kinds of the layer.
var kinds = []api.SymOp{api.EAN13, api.EAN8, api.UPCA, api.UPCE}

// notKinds are numbers that are not kinds.
var notKinds = []api.SymOp{0, -1, api.Code39, api.Codabar, api.ITF, api.Code128, api.GS1128, api.QRCode, api.Stacked, 14, 1 << 32}

// sizes are the numbers of digits of complete texts.
var sizes = map[api.SymOp]int{api.EAN13: 13, api.EAN8: 8, api.UPCA: 12, api.UPCE: 8}

// quiet are the left and right quiet zones without an add-on.
var quiet = map[api.SymOp][2]int{api.EAN13: {11, 7}, api.EAN8: {7, 7}, api.UPCA: {9, 9}, api.UPCE: {9, 7}}

// widths are the widths of the two spaces and two bars of the digits in set A, as standards give them.
var widths = []string{"3211", "2221", "2122", "1411", "1132", "1231", "1114", "1312", "1213", "3112"}

// The sequences of sets as binary numbers, in which B is 1: for first digits, for check digits with the number system digits 0 and 1, and for add-ons of five digits.
var (
	ean13Rows = []int{0x00, 0x0b, 0x0d, 0x0e, 0x13, 0x19, 0x1c, 0x15, 0x16, 0x1a}
	upceRows  = [][]int{{0x38, 0x34, 0x32, 0x31, 0x2c, 0x26, 0x23, 0x2a, 0x29, 0x25}, {0x07, 0x0b, 0x0d, 0x0e, 0x13, 0x19, 0x1c, 0x15, 0x16, 0x1a}}
	fiveRows  = []int{0x18, 0x14, 0x12, 0x11, 0x0c, 0x06, 0x03, 0x0a, 0x09, 0x05}
)

func newRand() *rand.Rand {
	return rand.New(rand.NewPCG(11, 12))
}

// bars returns modules with alternating runs of the widths.
func bars(widths string, dark bool) string {
	s := ""
	for _, w := range widths {
		char := "0"
		if dark {
			char = "1"
		}
		s += strings.Repeat(char, int(w-'0'))
		dark = !dark
	}
	return s
}

// backward returns a string from right to left.
func backward(s string) string {
	b := []byte(s)
	slices.Reverse(b)
	return string(b)
}

// digitIn returns the modules of a digit in the set A, B or C (0, 1, 2).
func digitIn(digit, set int) string {
	switch set {
	case 0:
		return bars(widths[digit], false)
	case 1:
		return bars(backward(widths[digit]), false)
	}
	return bars(widths[digit], true)
}

// digitsBy returns the modules of digits, in the set B where a bit of row is 1 (the first digit has the highest bit), and otherwise in the set A.
func digitsBy(text string, row int, between string) string {
	var list []string
	for i := range len(text) {
		list = append(list, digitIn(int(text[i]-'0'), row>>(len(text)-1-i)&1))
	}
	return strings.Join(list, between)
}

// rightHalf returns the modules of digits in set C.
func rightHalf(text string) string {
	s := ""
	for i := range len(text) {
		s += digitIn(int(text[i]-'0'), 2)
	}
	return s
}

// number returns the number that digits represent.
func number(digits string) int {
	n := 0
	for _, c := range digits {
		n = 10*n + int(c-'0')
	}
	return n
}

// symbolText returns the modules of the symbol of a complete text.
func symbolText(kind api.SymOp, text string) string {
	switch kind {
	case api.EAN8:
		return "101" + digitsBy(text[:4], 0, "") + "01010" + rightHalf(text[4:]) + "101"
	case api.UPCE:
		return "101" + digitsBy(text[1:7], upceRows[number(text[:1])][number(text[7:])], "") + "010101"
	case api.UPCA:
		text = "0" + text
	}
	return "101" + digitsBy(text[1:7], ean13Rows[number(text[:1])], "") + "01010" + rightHalf(text[7:]) + "101"
}

// addOnRow returns the sequence of sets of an add-on.
func addOnRow(text string) int {
	n := number(text)
	if len(text) == 2 {
		return n % 4
	}
	return fiveRows[(3*(n/10000+n/100%10+n%10)+9*(n/1000%10+n/10%10))%10]
}

// addOnText returns the modules of an add-on.
func addOnText(text string) string {
	return "1011" + digitsBy(text, addOnRow(text), "01")
}

// zeros returns n light modules.
func zeros(n int) string {
	return strings.Repeat("0", n)
}

// symbolRow returns the modules of a row with a symbol and an add-on.
func symbolRow(kind api.SymOp, text, addOn string) string {
	left, right := quiet[kind][0], quiet[kind][1]
	s := zeros(left) + symbolText(kind, text)
	if addOn == "" {
		return s + zeros(right)
	}
	return s + zeros(9) + addOnText(addOn) + zeros(7)
}

// rowOf returns the row that is written with the digits 0 and 1.
func rowOf(s string) []bool {
	var row []bool
	for _, c := range s {
		row = append(row, c == '1')
	}
	return row
}

// textOf returns a row as digits.
func textOf(row []bool) string {
	s := make([]byte, len(row))
	for i, dark := range row {
		s[i] = '0'
		if dark {
			s[i] = '1'
		}
	}
	return string(s)
}

// checkOf returns the check digit of the digits before it.
func checkOf(kind api.SymOp, text string) string {
	if kind == api.UPCE {
		text = expansion(text + "0")[:11]
	}
	sum, weight := 0, 3
	for i := len(text) - 1; i >= 0; i-- {
		sum += weight * int(text[i]-'0')
		weight = 4 - weight
	}
	return string(rune('0' + (10-sum%10)%10))
}

// A rule is a line of the expansion of UPC-E: the digits f for which it counts, and the UPC-A text in letters.
type rule struct{ f, upca string }

var rules = []rule{{"012", "nabf0000cdek"}, {"3", "nabc00000dek"}, {"4", "nabcd00000ek"}, {"56789", "nabcde0000fk"}}

const upceLetters = "nabcdefk"

// expansion returns the UPC-A text to which a UPC-E text expands.
func expansion(upce string) string {
	for _, r := range rules {
		if strings.Contains(r.f, upce[6:7]) {
			upca := r.upca
			for i := range len(upceLetters) {
				upca = strings.ReplaceAll(upca, upceLetters[i:i+1], upce[i:i+1])
			}
			return upca
		}
	}
	panic("no rule for " + upce)
}

// compression returns the UPC-E text that expands to a UPC-A text by the first possible rule, or the empty string.
func compression(upca string) string {
	for _, r := range rules {
		for _, f := range []byte(r.f) {
			digits := map[byte]byte{}
			for i := range len(upca) {
				digits[r.upca[i]] = upca[i]
			}
			digits['f'] = f
			upce := make([]byte, len(upceLetters))
			for i := range upce {
				upce[i] = digits[upceLetters[i]]
			}
			if upce[0] <= '1' && expansion(string(upce)) == upca {
				return string(upce)
			}
		}
	}
	return ""
}

// randomDigits returns n digits, more often zeros than others.
func randomDigits(r *rand.Rand, n int) string {
	s := make([]byte, n)
	for i := range s {
		s[i] = '0'
		if r.IntN(4) > 0 {
			s[i] += byte(r.IntN(10))
		}
	}
	return string(s)
}

// randomText returns a complete text.
func randomText(r *rand.Rand, kind api.SymOp) string {
	text := randomDigits(r, sizes[kind]-1)
	if kind == api.UPCE {
		text = string(rune('0'+r.IntN(2))) + text[1:]
	}
	return text + checkOf(kind, text)
}

// randomAddOn returns an add-on, or none.
func randomAddOn(r *rand.Rand) string {
	return randomDigits(r, []int{0, 2, 5}[r.IntN(3)])
}

// encoded returns the row of a text that Encode must accept.
func encoded(t *testing.T, kind api.SymOp, text, addOn string) []bool {
	t.Helper()
	row, e := ean.Encode(kind, text, addOn)
	if e != api.OK {
		t.Fatalf("Encode(%d, %q, %q): %d", kind, text, addOn, e)
	}
	return row
}
