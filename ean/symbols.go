package ean

import (
	"strings"

	"barscan/api"
	"barscan/checkdigit"
)

// Inside of the package modules are characters, 1 for a dark one and 0 for a light one, so that they can be compared with the guards as they are written.
const (
	guard      = "101"    // the start of all symbols, and the end of all but UPC-E
	middle     = "01010"  // between the halves of EAN-13 and EAN-8
	upceStop   = "010101" // the end of UPC-E
	addOnStart = "1011"
	separator  = "01" // between two digits of an add-on
)

// The numbers of modules of the symbols and the add-ons, and of the digits in them.
const (
	ean13Size  = 95
	ean8Size   = 67
	upceSize   = 51
	addOn2Size = 20
	addOn5Size = 47
	digitSize  = 7
)

// The numbers of light modules beside the symbols.
const (
	leastQuiet  = 7  // in rows that are read
	addOnGap    = 9  // between a symbol and its add-on
	leastGap    = 7  // the same in rows that are read
	greatestGap = 12 // the same in rows that are read
	addOnQuiet  = 7  // after an add-on
)

// sets are the names of the sets of digits, at their numbers.
const sets = "ABC"

// quietZones returns the numbers of light modules before and after a symbol.
func quietZones(kind api.SymOp) (left, right int) {
	switch kind {
	case api.EAN13:
		return 11, 7
	case api.EAN8:
		return 7, 7
	case api.UPCA:
		return 9, 9
	}
	return 9, 7
}

// digitsInA returns the modules of the digits in set A.
func digitsInA() [10]string {
	return [10]string{"0001101", "0011001", "0010011", "0111101", "0100011", "0110001", "0101111", "0111011", "0110111", "0001011"}
}

// digitModules returns the modules of a digit in a set.
func digitModules(digit int, set byte) string {
	return translated(digitsInA()[digit], set)
}

// translated returns the modules in another set of what are the modules of a digit in set A. It also translates back, because what it does to modules is its own inverse.
func translated(modules string, set byte) string {
	switch set {
	case 'B':
		return reversed(exchanged(modules))
	case 'C':
		return exchanged(modules)
	}
	return modules
}

// exchanged returns modules with dark and light exchanged.
func exchanged(modules string) string {
	var out []byte
	for i := range len(modules) {
		out = append(out, '0'+'1'-modules[i])
	}
	return string(out)
}

// reversed returns modules from right to left.
func reversed(modules string) string {
	var out []byte
	for i := len(modules) - 1; i >= 0; i-- {
		out = append(out, modules[i])
	}
	return string(out)
}

// firstDigitSets returns the sets of the left half of EAN-13 for all first digits.
func firstDigitSets() [10]string {
	return [10]string{"AAAAAA", "AABABB", "AABBAB", "AABBBA", "ABAABB", "ABBAAB", "ABBBAA", "ABABAB", "ABABBA", "ABBABA"}
}

// checkDigitSets returns the sets of UPC-E with a number system digit for all check digits.
func checkDigitSets(system byte) [10]string {
	rows := [10]string{"BBBAAA", "BBABAA", "BBAABA", "BBAAAB", "BABBAA", "BAABBA", "BAAABB", "BABABA", "BABAAB", "BAABAB"}
	if system == '1' {
		for i, row := range rows {
			rows[i] = otherSets(row)
		}
	}
	return rows
}

// otherSets returns sets with A and B exchanged.
func otherSets(row string) string {
	var out []byte
	for i := range len(row) {
		out = append(out, 'A'+'B'-row[i])
	}
	return string(out)
}

// addOnSets returns the sets of the digits of an add-on.
func addOnSets(addOn string) string {
	if len(addOn) == 2 {
		pairs := [4]string{"AA", "AB", "BA", "BB"}
		return pairs[(10*valueOf(addOn[0])+valueOf(addOn[1]))%4]
	}
	rows := [10]string{"BBAAA", "BABAA", "BAABA", "BAAAB", "ABBAA", "AABBA", "AAABB", "ABABA", "ABAAB", "AABAB"}
	sum, _ := checkdigit.Weighted(addOn, []int{3, 9}, 10)
	return rows[sum]
}

// valueOf returns the value of a digit.
func valueOf(digit byte) int {
	return int(digit - '0')
}

// symbolOf returns the symbol of a complete text.
func symbolOf(kind api.SymOp, text string) string {
	switch kind {
	case api.EAN8:
		return guard + digitsIn("AAAA", text[:4], "") + middle + digitsIn("CCCC", text[4:], "") + guard
	case api.UPCE:
		row := checkDigitSets(text[0])[valueOf(text[7])]
		return guard + digitsIn(row, text[1:7], "") + upceStop
	case api.UPCA:
		text = "0" + text
	}
	row := firstDigitSets()[valueOf(text[0])]
	return guard + digitsIn(row, text[1:7], "") + middle + digitsIn("CCCCCC", text[7:], "") + guard
}

// addOnOf returns the modules of an add-on.
func addOnOf(addOn string) string {
	return addOnStart + digitsIn(addOnSets(addOn), addOn, separator)
}

// digitsIn returns the modules of digits, each in its set, with others between two digits.
func digitsIn(row, digits, between string) string {
	var parts []string
	for i := range len(digits) {
		parts = append(parts, digitModules(valueOf(digits[i]), row[i]))
	}
	return strings.Join(parts, between)
}

// light returns n light modules.
func light(n int) string {
	return strings.Repeat("0", n)
}

// rowOf returns the row of modules that are characters.
func rowOf(modules string) []bool {
	row := make([]bool, len(modules))
	for i := range row {
		row[i] = modules[i] == '1'
	}
	return row
}

// modulesOf returns the modules of a row as characters.
func modulesOf(row []bool) string {
	modules := make([]byte, len(row))
	for i, dark := range row {
		modules[i] = '0'
		if dark {
			modules[i] = '1'
		}
	}
	return string(modules)
}
