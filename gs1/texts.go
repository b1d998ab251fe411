package gs1

import (
	"strings"

	"barscan/api"
)

// separator is FNC1 in a message: a byte that is not one of the other characters, which are less than 128.
const separator = "\x80"

// textOf returns the text form of an element.
func textOf(x api.Element) string {
	return "(" + x.AI + ")" + x.Data
}

// cutText returns the element at the beginning of a text form, which is not empty, and what follows it; and whether there is one.
func cutText(s string) (x api.Element, after string, ok bool) {
	if s[0] != '(' {
		return api.Element{}, "", false
	}
	ai, rest, ok := strings.Cut(s[1:], ")")
	if !ok {
		return api.Element{}, "", false
	}
	end := strings.IndexByte(rest, '(')
	if end < 0 {
		end = len(rest)
	}
	return api.Element{AI: ai, Data: rest[:end]}, rest[end:], true
}

// charsOf returns the bytes of a text as characters.
func charsOf(text string) []int {
	chars := make([]int, len(text))
	for i := range chars {
		chars[i] = int(text[i])
	}
	return chars
}

// messageOf returns characters as a message, in which each of them is one byte; and whether all of them are allowed.
func messageOf(chars []int) (string, bool) {
	var message strings.Builder
	for _, c := range chars {
		switch {
		case c == api.FNC1:
			message.WriteString(separator)
		case c >= 0 && c < 128:
			message.WriteByte(byte(c))
		default:
			return "", false
		}
	}
	return message.String(), true
}

// cut returns the element at the beginning of a message, which is not empty, and what follows it.
func (known rules) cut(message string) (x api.Element, after string, e api.Errno) {
	if strings.HasPrefix(message, separator) {
		return api.Element{}, "", api.ErrForm
	}
	ai, ok := known.leading(message)
	if !ok {
		return api.Element{}, "", api.ErrNone
	}
	r, _ := known.ruleOf(ai)
	rest := message[len(ai):]
	data, after, separated := strings.Cut(rest, separator)
	if r.fixed {
		if len(data) < r.most {
			return api.Element{}, "", api.ErrTruncated
		}
		data, after = rest[:r.most], rest[r.most:]
	}
	if e := r.fault(data); e != api.OK {
		return api.Element{}, "", e
	}
	if !r.fixed && separated && after == "" {
		return api.Element{}, "", api.ErrForm
	}
	return api.Element{AI: ai, Data: data}, after, api.OK
}
