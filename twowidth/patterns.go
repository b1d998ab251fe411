package twowidth

import (
	"slices"
	"strings"
)

// The characters that have patterns: data are those that a check character can also be, ends are those at the ends of a symbol.
const (
	digits      = "0123456789"
	code39Data  = digits + "ABCDEFGHIJKLMNOPQRSTUVWXYZ-. $/+%"
	code39End   = "*"
	codabarData = digits + "-$:/.+"
	codabarEnds = "ABCD"
)

// An alphabet has the patterns of characters, in the same order.
type alphabet struct {
	characters string
	patterns   []string
}

// patternOf returns the pattern of a character, or the empty string if it has none.
func (a alphabet) patternOf(char byte) string {
	i := strings.IndexByte(a.characters, char)
	if i < 0 {
		return ""
	}
	return a.patterns[i]
}

// characterOf returns the character with a pattern as a string, which is empty if there is none.
func (a alphabet) characterOf(pattern string) string {
	i := slices.Index(a.patterns, pattern)
	if i < 0 {
		return ""
	}
	return a.characters[i : i+1]
}

// code39Alphabet returns the patterns of Code 39.
func code39Alphabet() alphabet {
	return alphabet{code39Data + code39End, []string{
		"nnnwwnwnn", "wnnwnnnnw", "nnwwnnnnw", "wnwwnnnnn", "nnnwwnnnw", "wnnwwnnnn", "nnwwwnnnn", "nnnwnnwnw", "wnnwnnwnn", "nnwwnnwnn",
		"wnnnnwnnw", "nnwnnwnnw", "wnwnnwnnn", "nnnnwwnnw", "wnnnwwnnn", "nnwnwwnnn", "nnnnnwwnw", "wnnnnwwnn", "nnwnnwwnn", "nnnnwwwnn",
		"wnnnnnnww", "nnwnnnnww", "wnwnnnnwn", "nnnnwnnww", "wnnnwnnwn", "nnwnwnnwn", "nnnnnnwww", "wnnnnnwwn", "nnwnnnwwn", "nnnnwnwwn",
		"wwnnnnnnw", "nwwnnnnnw", "wwwnnnnnn", "nwnnwnnnw", "wwnnwnnnn", "nwwnwnnnn",
		"nwnnnnwnw", "wwnnnnwnn", "nwwnnnwnn", "nwnwnwnnn", "nwnwnnnwn", "nwnnnwnwn", "nnnwnwnwn", "nwnnwnwnn",
	}}
}

// codabarAlphabet returns the patterns of Codabar.
func codabarAlphabet() alphabet {
	return alphabet{codabarData + codabarEnds, []string{
		"nnnnnww", "nnnnwwn", "nnnwnnw", "wwnnnnn", "nnwnnwn", "wnnnnwn", "nwnnnnw", "nwnnwnn", "nwwnnnn", "wnnwnnn",
		"nnnwwnn", "nnwwnnn", "wnnnwnw", "wnwnnnw", "wnwnwnn", "nnwnwnw",
		"nnwwnwn", "nwnwnnw", "nnnwnww", "nnnwwwn",
	}}
}

// itfAlphabet returns the patterns of ITF.
func itfAlphabet() alphabet {
	return alphabet{digits, []string{
		"nnwwn", "wnnnw", "nwnnw", "wwnnn", "nnwnw", "wnwnn", "nwwnn", "nnnww", "wnnwn", "nwnwn",
	}}
}
