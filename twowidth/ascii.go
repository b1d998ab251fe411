package twowidth

import (
	"strings"

	"barscan/api"
)

// shifts are the characters of Code 39 that begin the representation of another one.
const shifts = "$/+%"

// A span is a range of ASCII characters that are represented by a shift and a letter: the first one by the letter, the others by the letters after it.
type span struct {
	first, last   byte
	shift, letter byte
}

// spans returns the ranges of the characters that do not represent themselves.
func spans() []span {
	return []span{
		{0, 0, '%', 'U'},
		{1, 26, '$', 'A'},
		{27, 31, '%', 'A'},
		{'!', ',', '/', 'A'},
		{'/', '/', '/', 'O'},
		{':', ':', '/', 'Z'},
		{';', '?', '%', 'F'},
		{'@', '@', '%', 'V'},
		{'[', '_', '%', 'K'},
		{'`', '`', '%', 'W'},
		{'a', 'z', '+', 'A'},
		{'{', '~', '%', 'P'},
		{127, 127, '%', 'T'},
	}
}

// Full returns the Code 39 text that represents ASCII characters.
func Full(ascii string) (string, api.Errno) {
	for i := range len(ascii) {
		if ascii[i] > 127 {
			return "", api.ErrChar
		}
	}
	// A character is represented by at least one, so that there is no need to represent a longer string.
	if len(ascii) > maxText {
		return "", api.ErrLong
	}
	var text []byte
	for i := range len(ascii) {
		text = append(text, represented(ascii[i])...)
	}
	if len(text) > maxText {
		return "", api.ErrLong
	}
	return string(text), api.OK
}

// Plain returns the ASCII characters that a Code 39 text represents.
func Plain(text string) (string, api.Errno) {
	if len(text) > maxText {
		return "", api.ErrLong
	}
	var ascii []byte
	for i := 0; i < len(text); i++ {
		if strings.IndexByte(code39Data, text[i]) < 0 {
			return "", api.ErrChar
		}
		if strings.IndexByte(shifts, text[i]) < 0 {
			ascii = append(ascii, text[i])
			continue
		}
		char, ok := shifted(text[i:])
		if !ok {
			return "", api.ErrForm
		}
		ascii = append(ascii, char)
		i++
	}
	return string(ascii), api.OK
}

// represented returns the representation of an ASCII character.
func represented(char byte) string {
	for _, s := range spans() {
		if char >= s.first && char <= s.last {
			return string([]byte{s.shift, s.letter + char - s.first})
		}
	}
	return string(rune(char))
}

// shifted returns the character that is represented by the shift and the letter at the beginning of a text, and whether there is one.
func shifted(text string) (byte, bool) {
	if len(text) < 2 {
		return 0, false
	}
	for _, s := range spans() {
		if s.shift == text[0] && text[1] >= s.letter && text[1]-s.letter <= s.last-s.first {
			return s.first + text[1] - s.letter, true
		}
	}
	return 0, false
}
