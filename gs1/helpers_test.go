package gs1_test

import (
	"fmt"
	"math/rand/v2"
	"regexp"
	"strings"
	"testing"

	"barscan/api"
	"barscan/gs1"
)

// table has the application identifiers and the form of their data, as the chapter writes them.
const table = `
| 00 | 18 digits, the last one a check digit |
| 01, 02 | 14 digits, the last one a check digit |
| 11, 12, 13, 15, 16, 17 | a date |
| 20 | 2 digits |
| 310d to 316d, 320d to 337d, where d is a digit from 0 to 5 | 6 digits |
| 410 to 417 | 13 digits, the last one a check digit |
| 30, 37 | 1 to 8 digits |
| 390d, 392d, where d is any digit | 1 to 15 digits |
| 10, 21, 22, 254 | 1 to 20 characters |
| 8020 | 1 to 25 characters |
| 240, 241, 250, 251, 400, 401, 403, 90 | 1 to 30 characters |
| 91 to 99 | 1 to 90 characters |`

// A form is what the table requires of data.
type form struct {
	least, most         int
	date, check, digits bool
}

// forms are the forms of all application identifiers.
var forms = func() map[string]form {
	m := map[string]form{}
	for line := range strings.Lines(strings.TrimSpace(table)) {
		cells := strings.Split(strings.TrimSpace(line), "|")
		for _, ai := range identifiersOf(cells[1]) {
			m[ai] = formOf(cells[2])
		}
	}
	return m
}()

// identifiersOf returns the application identifiers of a line of the table.
func identifiersOf(cell string) []string {
	list, scale, _ := strings.Cut(cell, ", where ")
	var all []string
	for part := range strings.SplitSeq(strings.TrimSpace(list), ", ") {
		first, last, ok := strings.Cut(part, " to ")
		if !ok {
			last = first
		}
		first, last = strings.TrimSuffix(first, "d"), strings.TrimSuffix(last, "d")
		for n := range 1000 {
			if ai := fmt.Sprintf("%0*d", len(first), n); len(ai) == len(first) && ai >= first && ai <= last {
				all = append(all, ai)
			}
			if ai := fmt.Sprint(n + 1000); ai == first {
				all = append(all, ai)
			}
		}
		if first == "8020" {
			all = append(all, first)
		}
	}
	if scale == "" {
		return all
	}
	var scaled []string
	for _, ai := range all {
		for d := range 10 {
			if d <= 5 || strings.Contains(scale, "any") {
				scaled = append(scaled, fmt.Sprint(ai, d))
			}
		}
	}
	return scaled
}

// formOf returns the form that a line of the table describes.
func formOf(cell string) form {
	var f form
	f.date = strings.Contains(cell, "date")
	f.check = strings.Contains(cell, "check digit")
	f.digits = f.date || strings.Contains(cell, "digits")
	if f.date {
		f.least, f.most = 6, 6
	} else if strings.Contains(cell, " to ") {
		fmt.Sscanf(cell, " %d to %d", &f.least, &f.most)
	} else {
		fmt.Sscanf(cell, " %d", &f.least)
		f.most = f.least
	}
	return f
}

// identifiers are all application identifiers.
var identifiers = func() []string {
	var list []string
	for n := range 10000 {
		for digits := 1; digits <= 4; digits++ {
			ai := fmt.Sprintf("%0*d", digits, n)
			if _, ok := forms[ai]; ok && len(ai) == digits {
				list = append(list, ai)
			}
		}
	}
	return list
}()

// The characters of data.
const (
	digits     = "0123456789"
	letters    = "ABCDEFGHIJKLMNOPQRSTUVWXYZabcdefghijklmnopqrstuvwxyz"
	characters = digits + letters + "!\"%&'*+,-./:;<=>?_"
)

var (
	allDigits     = regexp.MustCompile(`^[0-9]*$`)
	allCharacters = regexp.MustCompile(`^[0-9A-Za-z!"%&'*+,./:;<=>?_-]*$`)
)

// days are the numbers of days of the months of a year that is not a leap year.
var days = []int{31, 28, 31, 30, 31, 30, 31, 31, 30, 31, 30, 31}

// isDate returns whether digits are a date.
func isDate(data string) bool {
	var year, month, day int
	fmt.Sscanf(data, "%2d%2d%2d", &year, &month, &day)
	if month < 1 || month > 12 {
		return false
	}
	most := days[month-1]
	if month == 2 && year%4 == 0 {
		most++
	}
	return day <= most
}

// checkSum returns the sum of the digits with the weights 1, 3, 1, 3 and so on from the right, modulo 10.
func checkSum(data string) int {
	sum, weight := 0, 1
	for i := len(data) - 1; i >= 0; i-- {
		sum += weight * int(data[i]-'0')
		weight = 4 - weight
	}
	return sum % 10
}

// wantVerify returns what Verify returns for an element.
func wantVerify(x api.Element) api.Errno {
	f, ok := forms[x.AI]
	switch {
	case !ok:
		return api.ErrNone
	case len(x.Data) < f.least || len(x.Data) > f.most:
		return api.ErrLength
	case f.digits && !allDigits.MatchString(x.Data) || !allCharacters.MatchString(x.Data):
		return api.ErrChar
	case f.date && !isDate(x.Data):
		return api.ErrForm
	case f.check && checkSum(x.Data) != 0:
		return api.ErrCheck
	}
	return api.OK
}

func newRand() *rand.Rand {
	return rand.New(rand.NewPCG(14, 15))
}

// randomFrom returns n of the characters.
func randomFrom(r *rand.Rand, characters string, n int) string {
	s := make([]byte, n)
	for i := range s {
		s[i] = characters[r.IntN(len(characters))]
	}
	return string(s)
}

// dataOf returns data of n characters for an application identifier.
func dataOf(r *rand.Rand, ai string, n int) string {
	f := forms[ai]
	switch {
	case f.date:
		month := r.IntN(12)
		return fmt.Sprintf("%02d%02d%02d", r.IntN(100), month+1, r.IntN(days[month]+1))
	case f.check:
		data := randomFrom(r, digits, n-1)
		return data + fmt.Sprint((10-checkSum(data+"0"))%10)
	case f.digits:
		return randomFrom(r, digits, n)
	}
	return randomFrom(r, characters, n)
}

// randomElement returns an element that Verify accepts.
func randomElement(r *rand.Rand) api.Element {
	ai := identifiers[r.IntN(len(identifiers))]
	f := forms[ai]
	n := f.least + r.IntN(f.most-f.least+1)
	if r.IntN(4) == 0 {
		n = f.most
	}
	return api.Element{AI: ai, Data: dataOf(r, ai, n)}
}

// randomElements returns n elements that Verify accepts.
func randomElements(r *rand.Rand, n int) []api.Element {
	var l []api.Element
	for range n {
		l = append(l, randomElement(r))
	}
	return l
}

// textForm returns the text form of elements.
func textForm(l []api.Element) string {
	s := ""
	for _, x := range l {
		s += "(" + x.AI + ")" + x.Data
	}
	return s
}

// charsOf returns the characters that are written in a text, in which ^ is FNC1.
func charsOf(text string) []int {
	var chars []int
	for _, c := range []byte(text) {
		if c == '^' {
			chars = append(chars, 256)
		} else {
			chars = append(chars, int(c))
		}
	}
	return chars
}

// charForm returns the characters of elements, in which ^ is FNC1.
func charForm(l []api.Element) string {
	s := "^"
	for i, x := range l {
		s += x.AI + x.Data
		if f := forms[x.AI]; f.least < f.most && i < len(l)-1 {
			s += "^"
		}
	}
	return s
}

// formatted returns the text form of elements that Format must accept.
func formatted(t *testing.T, l []api.Element) string {
	t.Helper()
	s, e := gs1.Format(l)
	if e != api.OK {
		t.Fatalf("Format(%v): %d", l, e)
	}
	return s
}

// element returns an element of the application identifier 99 with n characters.
func element(n int) api.Element {
	return api.Element{AI: "99", Data: strings.Repeat("x", n)}
}
