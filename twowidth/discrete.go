package twowidth

import (
	"strings"

	"barscan/api"
	"barscan/checkdigit"
)

// A discrete symbology has characters with elements of their own, and a narrow space between two characters. In its symbols, those at the ends are among others than those between them.
type discrete struct {
	alphabet   alphabet
	size       int // the number of elements of a character
	data, ends string
}

// code39 returns the symbology Code 39.
func code39() symbology {
	d := discrete{code39Alphabet(), 9, code39Data, code39End}
	return symbology{
		pattern: d.alphabet.patternOf,
		fault: func(text string, check bool) api.Errno {
			if !consistsOf(text, code39Data) {
				return api.ErrChar
			}
			return api.OK
		},
		checked: func(text string) string {
			full, _ := checkdigit.Append(api.CheckCode39, text)
			return full
		},
		unchecked:  withoutLast,
		elements:   func(full string) string { return d.elements(code39End + full + code39End) },
		characters: func(elements int) int { return d.characters(elements) - 2 },
		isLength:   lengthsFrom(1),
		read: func(elements string) (string, api.Errno) {
			framed, e := d.read(elements)
			if e != api.OK {
				return "", e
			}
			return framed[1 : len(framed)-1], api.OK
		},
	}
}

// codabar returns the symbology Codabar.
func codabar() symbology {
	d := discrete{codabarAlphabet(), 7, codabarData, codabarEnds}
	return symbology{
		pattern: d.alphabet.patternOf,
		fault:   func(text string, check bool) api.Errno { return codabarFault(text) },
		checked: func(text string) string {
			last := len(text) - 1
			return text[:last] + codabarCheck(text) + text[last:]
		},
		unchecked: func(full string) string {
			last := len(full) - 1
			return full[:last-1] + full[last:]
		},
		elements:   d.elements,
		characters: d.characters,
		isLength:   lengthsFrom(2),
		read:       d.read,
	}
}

// codabarFault returns the error of a text that is neither empty nor too long.
func codabarFault(text string) api.Errno {
	last := len(text) - 1
	switch {
	case last == 0:
		return api.ErrLength
	case !consistsOf(text[:1], codabarEnds):
		return api.ErrStart
	case !consistsOf(text[last:], codabarEnds):
		return api.ErrStop
	case !consistsOf(text[1:last], codabarData):
		return api.ErrChar
	}
	return api.OK
}

// codabarCheck returns the check character of a text.
func codabarCheck(text string) string {
	sum := 0
	for i := range len(text) {
		sum += strings.IndexByte(codabarData+codabarEnds, text[i])
	}
	// The sum is not negative, so that its lowest bits are what the check character has to complete to 16.
	value := -sum & 15
	return codabarData[value : value+1]
}

// elements returns the elements of characters.
func (d discrete) elements(characters string) string {
	var patterns []string
	for i := range len(characters) {
		patterns = append(patterns, d.alphabet.patternOf(characters[i]))
	}
	return strings.Join(patterns, string(narrow))
}

// characters returns the number of characters of so many elements, or -1 if there is none.
func (d discrete) characters(elements int) int {
	// With a space after the last character, too, all have the same number of elements.
	if (elements+1)%(d.size+1) != 0 {
		return -1
	}
	return (elements + 1) / (d.size + 1)
}

// read returns the characters of elements.
func (d discrete) read(elements string) (string, api.Errno) {
	var characters []byte
	for at := 0; at < len(elements); at += d.size + 1 {
		if at > 0 && elements[at-1] == wide {
			return "", api.ErrPattern
		}
		allowed, fault := d.data, api.ErrPattern
		if at == 0 {
			allowed, fault = d.ends, api.ErrStart
		} else if at+d.size == len(elements) {
			allowed, fault = d.ends, api.ErrStop
		}
		char := d.alphabet.characterOf(elements[at : at+d.size])
		if char == "" || !strings.Contains(allowed, char) {
			return "", fault
		}
		characters = append(characters, char...)
	}
	return string(characters), api.OK
}
