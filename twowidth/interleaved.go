package twowidth

import (
	"barscan/api"
	"barscan/checkdigit"
)

// The elements at the ends of a symbol of ITF, and how many elements it has for two digits.
const (
	itfStart = "nnnn"
	itfStop  = "wnn"
	itfPair  = 10
)

// itf returns the symbology ITF.
func itf() symbology {
	a := itfAlphabet()
	return symbology{
		pattern: a.patternOf,
		fault: func(text string, check bool) api.Errno {
			if !consistsOf(text, digits) {
				return api.ErrChar
			}
			if (len(text)%2 == 0) == check {
				return api.ErrLength
			}
			return api.OK
		},
		checked: func(text string) string {
			full, _ := checkdigit.Append(api.CheckGS1, text)
			return full
		},
		unchecked: withoutLast,
		elements: func(full string) string {
			elements := itfStart
			for i := 0; i < len(full); i += 2 {
				elements += interleaved(a.patternOf(full[i]), a.patternOf(full[i+1]))
			}
			return elements + itfStop
		},
		characters: itfCharacters,
		isLength:   lengthsFrom(1),
		read:       func(elements string) (string, api.Errno) { return readPairs(a, elements) },
	}
}

// itfCharacters returns the number of digits of so many elements, or -1 if there is none.
func itfCharacters(elements int) int {
	pairs := elements - len(itfStart) - len(itfStop)
	if pairs%itfPair != 0 {
		return -1
	}
	return pairs / itfPair * 2
}

// readPairs returns the digits of the elements of ITF.
func readPairs(a alphabet, elements string) (string, api.Errno) {
	stop := len(elements) - len(itfStop)
	if elements[:len(itfStart)] != itfStart {
		return "", api.ErrStart
	}
	text := ""
	for at := len(itfStart); at < stop; at += itfPair {
		bars, spaces := everySecond(elements[at : at+itfPair])
		first, second := a.characterOf(bars), a.characterOf(spaces)
		if first == "" || second == "" {
			return "", api.ErrPattern
		}
		text += first + second
	}
	if elements[stop:] != itfStop {
		return "", api.ErrStop
	}
	return text, api.OK
}
