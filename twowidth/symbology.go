package twowidth

import (
	"strings"

	"barscan/api"
)

// A symbology is what is different for the kinds, as functions. A full text includes the check character, if there is one.
type symbology struct {
	pattern    func(char byte) string                    // the elements of a character, or the empty string
	fault      func(text string, check bool) api.Errno   // the error of a text that is neither empty nor too long
	checked    func(text string) string                  // a text with its check character
	unchecked  func(full string) string                  // a full text without its check character
	elements   func(full string) string                  // the elements of a symbol
	characters func(elements int) int                    // the number of characters of the full text of so many elements, or -1
	isLength   func(characters int, check bool) bool     // whether a full text can have so many characters
	read       func(elements string) (string, api.Errno) // the full text of a possible number of elements
}

// symbologyOf returns the symbology of a kind, and whether it is one of this layer.
func symbologyOf(kind api.SymOp) (symbology, bool) {
	switch kind {
	case api.Code39:
		return code39(), true
	case api.Codabar:
		return codabar(), true
	case api.ITF:
		return itf(), true
	}
	return symbology{}, false
}

// lengthsFrom returns the function that tells whether a full text has at least so many characters, and at most maxText, beside its check character.
func lengthsFrom(least int) func(int, bool) bool {
	return func(characters int, check bool) bool {
		if check {
			characters--
		}
		return characters >= least && characters <= maxText
	}
}

// withoutLast returns a text without its last character.
func withoutLast(text string) string {
	return text[:len(text)-1]
}

// consistsOf returns whether all bytes of a text are among some characters.
func consistsOf(text, characters string) bool {
	for i := range len(text) {
		if strings.IndexByte(characters, text[i]) < 0 {
			return false
		}
	}
	return true
}
