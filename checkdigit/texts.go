package checkdigit

import "strings"

// consistsOf returns whether all bytes of s are characters of an alphabet.
func consistsOf(s, alphabet string) bool {
	for i := range len(s) {
		if strings.IndexByte(alphabet, s[i]) < 0 {
			return false
		}
	}
	return true
}

// hasLength returns whether s has check characters, and before them as many characters as the data may have.
func hasLength(sys system, s string) bool {
	n := len(s) - sys.size()
	return n > 0 && sys.fits(n)
}

// replacements returns the strings that differ from s in exactly one character, which is one of an alphabet.
func replacements(s, alphabet string) []string {
	var list []string
	for i := range len(s) {
		for j := range len(alphabet) {
			if alphabet[j] != s[i] {
				list = append(list, s[:i]+alphabet[j:j+1]+s[i+1:])
			}
		}
	}
	return list
}

// exchanges returns the strings that result from s by an exchange of two neighbouring characters that are different.
func exchanges(s string) []string {
	var list []string
	for i := range len(s) - 1 {
		if s[i] != s[i+1] {
			list = append(list, s[:i]+s[i+1:i+2]+s[i:i+1]+s[i+2:])
		}
	}
	return list
}
