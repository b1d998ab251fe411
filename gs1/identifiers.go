package gs1

import "strings"

// A kind is what data consist of.
type kind int

const (
	plain   kind = iota // digits
	checked             // digits, the last one a check digit
	date                // digits that are a date
	mixed               // characters
)

// A rule is the form of the data of application identifiers.
type rule struct {
	kind  kind
	fixed bool // whether all data have the greatest length
	most  int  // the greatest length
	scale byte // if not 0, the application identifiers have one more digit, from 0 to this one
}

// rules are the rules of application identifiers by their prefixes: all of an application identifier, or all but the digit that the rule allows.
type rules map[string]rule

// longest is the length of the longest application identifiers, and room is a number of prefixes that the rules do not exceed, so that the map need not grow.
const (
	longest = 4
	room    = 80
)

// identifiers returns the rules of all application identifiers.
func identifiers() rules {
	known := make(rules, room)
	for _, row := range []struct {
		prefixes string
		rule     rule
	}{
		{"00", rule{kind: checked, fixed: true, most: 18}},
		{"01 02", rule{kind: checked, fixed: true, most: 14}},
		{"11 12 13 15 16 17", rule{kind: date, fixed: true, most: 6}},
		{"20", rule{kind: plain, fixed: true, most: 2}},
		{"310 311 312 313 314 315 316", rule{kind: plain, fixed: true, most: 6, scale: '5'}},
		{"320 321 322 323 324 325 326 327 328 329", rule{kind: plain, fixed: true, most: 6, scale: '5'}},
		{"330 331 332 333 334 335 336 337", rule{kind: plain, fixed: true, most: 6, scale: '5'}},
		{"410 411 412 413 414 415 416 417", rule{kind: checked, fixed: true, most: 13}},
		{"30 37", rule{kind: plain, most: 8}},
		{"390 392", rule{kind: plain, most: 15, scale: '9'}},
		{"10 21 22 254", rule{kind: mixed, most: 20}},
		{"8020", rule{kind: mixed, most: 25}},
		{"240 241 250 251 400 401 403 90", rule{kind: mixed, most: 30}},
		{"91 92 93 94 95 96 97 98 99", rule{kind: mixed, most: 90}},
	} {
		for _, prefix := range strings.Fields(row.prefixes) {
			known[prefix] = row.rule
		}
	}
	return known
}

// ruleOf returns the rule of an application identifier, and whether there is one.
func (known rules) ruleOf(ai string) (rule, bool) {
	if r, ok := known[ai]; ok {
		return r, r.scale == 0
	}
	if ai == "" {
		return rule{}, false
	}
	last := len(ai) - 1
	// Without such a prefix, or if the prefix is all of an application identifier, the scale is 0, which is less than any digit.
	r := known[ai[:last]]
	return r, ai[last] >= '0' && ai[last] <= r.scale
}

// leading returns the application identifier at the beginning of characters, and whether there is one. There is at most one, because none is the beginning of another one.
func (known rules) leading(chars string) (string, bool) {
	for n := 1; n <= longest && n <= len(chars); n++ {
		if _, ok := known.ruleOf(chars[:n]); ok {
			return chars[:n], true
		}
	}
	return "", false
}
