package code128

import "barscan/api"

// A codeSet is a code set.
type codeSet int

// The code sets, in the order of their start values.
const (
	setA codeSet = iota
	setB
	setC
	setCount
)

// The code values with a meaning of their own. Values below signs are characters in code sets A and B, values below pairs are two digits in code set C, and values above the one of FNC1 have no meaning between the start value and the check value.
const (
	signs  = 96
	fnc3   = 96
	fnc2   = 97
	shift  = 98
	pairs  = 100
	codeA  = 101
	fnc1   = 102
	startA = 103
	stop   = 106
)

// modulus is what the check value is smaller than.
const modulus = 103

// startOf returns the start value that selects a code set.
func startOf(set codeSet) int {
	return startA + int(set)
}

// startedBy returns the code set that a value selects as a start value, and whether it is one.
func startedBy(value int) (codeSet, bool) {
	if value < startOf(setA) || value > startOf(setC) {
		return 0, false
	}
	return codeSet(value - startA), true
}

// codeOf returns the value that selects a code set within another one. In code sets A and B the one that would select the set itself is FNC4.
func codeOf(set codeSet) int {
	return codeA - int(set)
}

// selectedBy returns the code set that a value selects within another one, and whether it selects one.
func selectedBy(value int, within codeSet) (codeSet, bool) {
	for set := range setCount {
		if set != within && value == codeOf(set) {
			return set, true
		}
	}
	return 0, false
}

// shifted returns the other one of the code sets A and B.
func shifted(set codeSet) codeSet {
	return setA + setB - set
}

// isCharacter returns whether a number is a character.
func isCharacter(char int) bool {
	return char >= 0 && char < 128 || char >= api.FNC1 && char <= api.FNC4
}

// isDigit returns whether a character is a digit.
func isDigit(char int) bool {
	return char >= '0' && char <= '9'
}

// areAtMost returns whether all values are from 0 to a greatest one.
func areAtMost(values []int, greatest int) bool {
	for _, v := range values {
		if v < 0 || v > greatest {
			return false
		}
	}
	return true
}

// checkOf returns the check value of a start value and the further values.
func checkOf(values []int) int {
	check := values[0]
	for i, v := range values {
		check = (check + i%modulus*v) % modulus
	}
	return check
}

// valueOf returns the value of a character in a code set, and whether it has one; in code set C only FNC1 has one alone.
func valueOf(set codeSet, char int) (int, bool) {
	switch {
	case char == api.FNC1:
		return fnc1, true
	case set == setC:
		return 0, false
	case char == api.FNC2:
		return fnc2, true
	case char == api.FNC3:
		return fnc3, true
	case char == api.FNC4:
		return codeOf(set), true
	case char < ' ':
		return char - ' ' + signs, set == setA
	}
	return char - ' ', char < signs || set == setB
}

// characterOf returns the character of a value from 0 to 102 in a code set, where the value neither stands for two digits nor changes the code set.
func characterOf(set codeSet, value int) int {
	switch {
	case value == fnc1:
		return api.FNC1
	case value == fnc2:
		return api.FNC2
	case value == fnc3:
		return api.FNC3
	case value >= signs:
		return api.FNC4
	case set == setA && value+' ' >= signs:
		return value + ' ' - signs
	}
	return value + ' '
}

// read returns the characters of the values between the start value and the check value, and whether they have a meaning.
func read(set codeSet, values []int) ([]int, bool) {
	var chars []int
	for i := 0; i < len(values); i++ {
		v := values[i]
		next, isCode := selectedBy(v, set)
		switch {
		case v > fnc1:
			return nil, false
		case set == setC && v < pairs:
			chars = append(chars, '0'+v/10, '0'+v%10)
		case isCode:
			set = next
		case v == shift:
			i++
			if i == len(values) || values[i] >= signs {
				return nil, false
			}
			chars = append(chars, characterOf(shifted(set), values[i]))
		default:
			chars = append(chars, characterOf(set, v))
		}
	}
	return chars, true
}
