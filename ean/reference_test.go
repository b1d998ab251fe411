package ean_test

import (
	"regexp"
	"slices"
	"strings"

	"barscan/api"
)

// A shape is a form of the modules from the first to the last dark one: the symbol and, if there is one, the add-on.
type shape struct {
	size int
	form *regexp.Regexp
}

var shapes = []shape{
	{95, regexp.MustCompile(`^([01]{95})$`)},
	{95, regexp.MustCompile(`^([01]{95})0{7,12}([01]{20})$`)},
	{95, regexp.MustCompile(`^([01]{95})0{7,12}([01]{47})$`)},
	{67, regexp.MustCompile(`^([01]{67})$`)},
	{67, regexp.MustCompile(`^([01]{67})0{7,12}([01]{20})$`)},
	{67, regexp.MustCompile(`^([01]{67})0{7,12}([01]{47})$`)},
	{51, regexp.MustCompile(`^([01]{51})$`)},
	{51, regexp.MustCompile(`^([01]{51})0{7,12}([01]{20})$`)},
	{51, regexp.MustCompile(`^([01]{51})0{7,12}([01]{47})$`)},
}

// The modules of the symbols in groups: the digits are not checked yet.
var inner = map[int]*regexp.Regexp{
	95: regexp.MustCompile(`^101([01]{42})01010([01]{42})101$`),
	67: regexp.MustCompile(`^101([01]{28})01010([01]{28})101$`),
	51: regexp.MustCompile(`^101([01]{42})()010101$`),
}

var addOnForms = map[int]*regexp.Regexp{
	20: regexp.MustCompile(`^1011([01]{7})01([01]{7})$`),
	47: regexp.MustCompile(`^1011([01]{7})01([01]{7})01([01]{7})01([01]{7})01([01]{7})$`),
}

// digitsByModules are the digits and sets, as 10 * set + digit, by their modules.
var digitsByModules = func() map[string]int {
	m := map[string]int{}
	for set := range 3 {
		for digit := range 10 {
			m[digitIn(digit, set)] = 10*set + digit
		}
	}
	return m
}()

// digitsOf returns the digits of modules, seven for each, and their sets as a number to the base 3, or -1.
func digitsOf(modules string) (string, int) {
	text, sets := "", 0
	for i := 0; i < len(modules); i += 7 {
		v, ok := digitsByModules[modules[i:i+7]]
		if !ok {
			return "", -1
		}
		text += string(rune('0' + v%10))
		sets = 3*sets + v/10
	}
	return text, sets
}

// base3 returns the number to the base 3 whose digits are the binary digits of n.
func base3(n int) int {
	if n == 0 {
		return 0
	}
	return 3*base3(n/2) + n%2
}

// allC returns n digits 2 as a number to the base 3.
func allC(n int) int {
	sets := 0
	for range n {
		sets = 3*sets + 2
	}
	return sets
}

// rowIndex returns the index of the row whose sets are those, or -1.
func rowIndex(rows []int, sets int) int {
	return slices.IndexFunc(rows, func(row int) bool { return base3(row) == sets })
}

// wantSymbol returns what a symbol contains.
func wantSymbol(s string) (api.Linear, api.Errno) {
	stop := "101"
	if len(s) == 51 {
		stop = "010101"
	}
	if !strings.HasPrefix(s, "101") {
		return api.Linear{}, api.ErrStart
	}
	if !strings.HasSuffix(s, stop) {
		return api.Linear{}, api.ErrStop
	}
	parts := inner[len(s)].FindStringSubmatch(s)
	if parts == nil {
		return api.Linear{}, api.ErrPattern
	}
	left, leftSets := digitsOf(parts[1])
	right, rightSets := digitsOf(parts[2])
	found := api.Linear{}
	switch len(s) {
	case 95:
		first := rowIndex(ean13Rows, leftSets)
		if first < 0 || rightSets != allC(6) {
			return api.Linear{}, api.ErrPattern
		}
		found = api.Linear{Kind: api.EAN13, Text: string(rune('0'+first)) + left + right}
		if first == 0 {
			found = api.Linear{Kind: api.UPCA, Text: left + right}
		}
	case 67:
		if leftSets != 0 || rightSets != allC(4) {
			return api.Linear{}, api.ErrPattern
		}
		found = api.Linear{Kind: api.EAN8, Text: left + right}
	case 51:
		rows := slices.Concat(upceRows...)
		i := rowIndex(rows, leftSets)
		if i < 0 {
			return api.Linear{}, api.ErrPattern
		}
		found = api.Linear{Kind: api.UPCE, Text: string(rune('0'+i/10)) + left + string(rune('0'+i%10))}
	}
	if n := len(found.Text) - 1; checkOf(found.Kind, found.Text[:n]) != found.Text[n:] {
		return api.Linear{}, api.ErrCheck
	}
	return found, api.OK
}

// wantAddOn returns the digits of an add-on.
func wantAddOn(s string) (string, api.Errno) {
	if !strings.HasPrefix(s, "1011") {
		return "", api.ErrStart
	}
	parts := addOnForms[len(s)].FindStringSubmatch(s)
	if parts == nil {
		return "", api.ErrPattern
	}
	text, row := "", 0
	for _, part := range parts[1:] {
		digit, set := digitsOf(part)
		if set != 0 && set != 1 {
			return "", api.ErrPattern
		}
		text += digit
		row = 2*row + set
	}
	if row != addOnRow(text) {
		return "", api.ErrCheck
	}
	return text, api.OK
}

// wantDecode returns what Decode returns for a row.
func wantDecode(s string) (api.Linear, api.Errno) {
	if len(s) > api.MaxRow {
		return api.Linear{}, api.ErrLong
	}
	first, last := strings.Index(s, "1"), strings.LastIndex(s, "1")
	if first < 0 {
		return api.Linear{}, api.ErrEmpty
	}
	if first < 7 || len(s)-1-last < 7 {
		return api.Linear{}, api.ErrForm
	}
	s = s[first : last+1]
	fault := api.OK
	for _, shape := range shapes {
		parts := shape.form.FindStringSubmatch(s)
		if parts == nil {
			continue
		}
		found, e := wantSymbol(parts[1])
		if e == api.OK && len(parts) == 3 {
			found.AddOn, e = wantAddOn(parts[2])
		}
		if e == api.OK {
			return found, api.OK
		}
		if fault == api.OK {
			fault = e
		}
	}
	if fault == api.OK {
		fault = api.ErrLength
	}
	return api.Linear{}, fault
}
