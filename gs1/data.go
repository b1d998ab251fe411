package gs1

import (
	"strings"

	"barscan/api"
	"barscan/checkdigit"
)

// The characters of data.
const (
	digits     = "0123456789"
	characters = digits + "ABCDEFGHIJKLMNOPQRSTUVWXYZ" + "abcdefghijklmnopqrstuvwxyz" + `!"%&'*+,-./:;<=>?_`
)

// faultOf returns the error of a list of elements.
func faultOf(l []api.Element) api.Errno {
	if len(l) == 0 {
		return api.ErrEmpty
	}
	known := identifiers()
	for _, x := range l {
		if e := known.fault(x); e != api.OK {
			return e
		}
	}
	return api.OK
}

// fault returns the error of an element.
func (known rules) fault(x api.Element) api.Errno {
	r, ok := known.ruleOf(x.AI)
	if !ok {
		return api.ErrNone
	}
	return r.fault(x.Data)
}

// fault returns the error of data.
func (r rule) fault(data string) api.Errno {
	allowed := digits
	if r.kind == mixed {
		allowed = characters
	}
	switch {
	case data == "" || len(data) > r.most || r.fixed && len(data) < r.most:
		return api.ErrLength
	case !consistsOf(data, allowed):
		return api.ErrChar
	case r.kind == date && !isDate(data):
		return api.ErrForm
	case r.kind == checked:
		return checkdigit.Verify(api.CheckGS1, data)
	}
	return api.OK
}

// consistsOf returns whether all bytes of data are among some characters.
func consistsOf(data, allowed string) bool {
	for i := range len(data) {
		if strings.IndexByte(allowed, data[i]) < 0 {
			return false
		}
	}
	return true
}

// isDate returns whether six digits are a date.
func isDate(data string) bool {
	year, month, day := number(data[:2]), number(data[2:4]), number(data[4:])
	return month >= 1 && month <= 12 && day <= daysOf(year, month)
}

// number returns the number that digits represent.
func number(text string) int {
	n := 0
	for i := range len(text) {
		n = 10*n + int(text[i]-'0')
	}
	return n
}

// daysOf returns the number of days of a month.
func daysOf(year, month int) int {
	switch month {
	case 2:
		if year%4 == 0 {
			return 29
		}
		return 28
	case 4, 6, 9, 11:
		return 30
	}
	return 31
}
