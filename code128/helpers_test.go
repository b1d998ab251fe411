package code128_test

import (
	"fmt"
	"math"
	"math/rand/v2"
	"slices"
	"strings"
	"testing"

	"barscan/api"
	"barscan/code128"
)

// notValues are numbers that are not code values.
var notValues = []int{-1, 107, 1 << 32, 1<<32 + 104, math.MaxInt, math.MinInt}

// notChars are numbers that are not characters.
var notChars = []int{-1, 128, 255, 260, 1 << 32, 1<<32 + '1', math.MaxInt, math.MinInt}

// table has the patterns of the values from 0 to 105, as the chapter writes them.
const table = `
| 0 | 212222 222122 222221 121223 121322 131222 122213 122312 |
| 8 | 132212 221213 221312 231212 112232 122132 122231 113222 |
| 16 | 123122 123221 223211 221132 221231 213212 223112 312131 |
| 24 | 311222 321122 321221 312212 322112 322211 212123 212321 |
| 32 | 232121 111323 131123 131321 112313 132113 132311 211313 |
| 40 | 231113 231311 112133 112331 132131 113123 113321 133121 |
| 48 | 313121 211331 231131 213113 213311 213131 311123 311321 |
| 56 | 331121 312113 312311 332111 314111 221411 431111 111224 |
| 64 | 111422 121124 121421 141122 141221 112214 112412 122114 |
| 72 | 122411 142112 142211 241211 221114 413111 241112 134111 |
| 80 | 111242 121142 121241 114212 124112 124211 411212 421112 |
| 88 | 421211 212141 214121 412121 111143 111341 131141 114113 |
| 96 | 114311 411113 411311 113141 114131 311141 411131 211412 |
| 104 | 211214 211232 |`

// patterns are the patterns of the values from 0 to 106.
var patterns = func() []string {
	var list []string
	for _, word := range strings.Fields(table) {
		if len(word) == 6 {
			list = append(list, word)
		}
	}
	return append(list, "2331112")
}()

// signs are the meanings of the values from 96 to 102 in the code sets, as the chapter writes them.
var signs = map[string][]string{
	"A": {"FNC3", "FNC2", "Shift B", "Code C", "Code B", "FNC4", "FNC1"},
	"B": {"FNC3", "FNC2", "Shift A", "Code C", "FNC4", "Code A", "FNC1"},
	"C": {"96", "97", "98", "99", "Code B", "Code A", "FNC1"},
}

// meaning returns what a value from 0 to 102 means in a code set: the name of a sign, or characters.
func meaning(set string, value int) string {
	switch {
	case value >= 96:
		return signs[set][value-96]
	case set == "C":
		return fmt.Sprintf("%02d", value)
	case set == "A" && value >= 64:
		return string(rune(value - 64))
	}
	return string(rune(value + 32))
}

// An effect is what a value does: it represents characters, and selects a code set, which may be for the next value only.
type effect struct {
	chars     []int
	set, next string
}

// effects are the effects of the values from 0 to 102 in the code sets.
var effects = func() map[string][]effect {
	m := map[string][]effect{}
	for set := range signs {
		for value := range 103 {
			text := meaning(set, value)
			var x effect
			if letter, ok := strings.CutPrefix(text, "Code "); ok {
				x.set = letter
			} else if letter, ok := strings.CutPrefix(text, "Shift "); ok {
				x.next = letter
			} else if i := slices.Index([]string{"FNC1", "FNC2", "FNC3", "FNC4"}, text); i >= 0 {
				x.chars = []int{256 + i}
			} else {
				x.chars = charsOf(text)
			}
			m[set] = append(m[set], x)
		}
	}
	return m
}()

// charsOf returns the characters of an ASCII text.
func charsOf(text string) []int {
	var chars []int
	for _, c := range []byte(text) {
		chars = append(chars, int(c))
	}
	return chars
}

// repeated returns characters n times.
func repeated(n int, chars ...int) []int {
	return slices.Repeat(chars, n)
}

// checkValue returns the check value of a sequence without it and without the stop value.
func checkValue(values []int) int {
	sum := values[0]
	for i, v := range values {
		sum += i * v
	}
	return sum % 103
}

// finished returns a sequence with its check value and the stop value.
func finished(values ...int) []int {
	return append(slices.Clone(values), checkValue(values), 106)
}

// wantChars returns what Chars returns for values.
func wantChars(values []int) ([]int, api.Errno) {
	if slices.ContainsFunc(values, func(v int) bool { return v < 0 || v > 106 }) {
		return nil, api.ErrRange
	}
	n := len(values)
	switch {
	case n < 3:
		return nil, api.ErrLength
	case values[0] < 103 || values[0] == 106:
		return nil, api.ErrStart
	case values[n-1] != 106:
		return nil, api.ErrStop
	case values[n-2] != checkValue(values[:n-2]):
		return nil, api.ErrCheck
	}
	return meanings([]string{"A", "B", "C"}[values[0]-103], values[1:n-2])
}

// meanings returns the characters of values that begin in a code set.
func meanings(set string, values []int) ([]int, api.Errno) {
	var chars []int
	one := ""
	for _, v := range values {
		if v > 102 || one != "" && v > 95 {
			return nil, api.ErrMode
		}
		if one != "" {
			chars, one = append(chars, effects[one][v].chars...), ""
			continue
		}
		x := effects[set][v]
		chars, one = append(chars, x.chars...), x.next
		if x.set != "" {
			set = x.set
		}
	}
	if one != "" {
		return nil, api.ErrMode
	}
	return chars, api.OK
}

// search returns the least sequence of at most most values that begins with some values and represents characters in a code set, or nil: it tries all values.
func search(set string, chars, values []int, most int) []int {
	if len(values)+(len(chars)+1)/2 > most {
		return nil
	}
	if len(chars) == 0 {
		return values
	}
	for v, x := range effects[set] {
		next, rest, added := set, chars, []int{v}
		if x.set != "" {
			next = x.set
		}
		if x.next != "" {
			v = slices.IndexFunc(effects[x.next], func(y effect) bool { return slices.Equal(y.chars, chars[:1]) })
			if v < 0 || v > 95 {
				continue
			}
			added, x = append(added, v), effects[x.next][v]
		}
		if len(x.chars) > len(chars) || !slices.Equal(x.chars, chars[:len(x.chars)]) {
			continue
		}
		rest = chars[len(x.chars):]
		if found := search(next, rest, slices.Concat(values, added), most); found != nil {
			return found
		}
	}
	return nil
}

// shortest returns the least of the shortest sequences for characters, by trying all sequences.
func shortest(chars []int) []int {
	for most := 1; ; most++ {
		for i, set := range []string{"A", "B", "C"} {
			if found := search(set, chars, []int{103 + i}, most); found != nil {
				return finished(found...)
			}
		}
	}
}

// better returns the shorter one of two lists, and of lists of the same length the lesser one; nil is worse than all others.
func better(a, b []int) []int {
	switch {
	case a == nil || b != nil && len(b) < len(a):
		return b
	case b == nil || len(a) < len(b) || slices.Compare(a, b) <= 0:
		return a
	}
	return b
}

// forward returns the least of the shortest sequences for characters: it keeps, for each number of characters and each code set, the best values that lead there.
func forward(chars []int) []int {
	known := map[string][]int{}
	key := func(at int, set string) string { return fmt.Sprint(at, set) }
	reach := func(at int, set string, values []int) {
		known[key(at, set)] = better(known[key(at, set)], values)
	}
	reach(0, "A", []int{103})
	reach(0, "B", []int{104})
	reach(0, "C", []int{105})
	sets := []string{"A", "B", "C"}
	for at := range chars {
		for _, from := range slices.Concat(sets, sets) {
			for v, x := range effects[from] {
				if x.set != "" {
					reach(at, x.set, slices.Concat(known[key(at, from)], []int{v}))
				}
			}
		}
		for _, set := range sets {
			values := known[key(at, set)]
			for v, x := range effects[set] {
				if n := len(x.chars); n > 0 && at+n <= len(chars) && slices.Equal(x.chars, chars[at:at+n]) {
					reach(at+n, set, slices.Concat(values, []int{v}))
				}
				if x.next == "" {
					continue
				}
				for w, y := range effects[x.next][:96] {
					if y.chars[0] == chars[at] {
						reach(at+1, set, slices.Concat(values, []int{v, w}))
					}
				}
			}
		}
	}
	var best []int
	for _, set := range sets {
		best = better(best, known[key(len(chars), set)])
	}
	return finished(best...)
}

// bars returns the modules of widths that are written as digits, beginning with a bar.
func bars(widths string) string {
	s := ""
	for i, w := range widths {
		s += strings.Repeat([]string{"1", "0"}[i%2], int(w-'0'))
	}
	return s
}

// symbolOf returns the modules of values.
func symbolOf(values []int) string {
	s := ""
	for _, v := range values {
		s += bars(patterns[v])
	}
	return s
}

// zeros returns n light modules.
func zeros(n int) string {
	return strings.Repeat("0", n)
}

// framed returns modules with the least quiet zones.
func framed(modules string) string {
	return zeros(10) + modules + zeros(10)
}

// rowOf returns the row that is written with the digits 0 and 1.
func rowOf(s string) []bool {
	var row []bool
	for _, c := range s {
		row = append(row, c == '1')
	}
	return row
}

// textOf returns a row as digits.
func textOf(row []bool) string {
	s := make([]byte, len(row))
	for i, dark := range row {
		s[i] = '0'
		if dark {
			s[i] = '1'
		}
	}
	return string(s)
}

func newRand() *rand.Rand {
	return rand.New(rand.NewPCG(13, 14))
}

// randomChars returns n characters, of which neighbours often belong to the same code set.
func randomChars(r *rand.Rand, n int) []int {
	groups := [][]int{charsOf("0123456789"), charsOf("0123456789"), charsOf("ABZ !_"), charsOf("abz`{\x7f"), charsOf("\x00\x01\x1f"), {256}, {256, 257, 258, 259}}
	var chars []int
	for len(chars) < n {
		group := groups[r.IntN(len(groups))]
		for range 1 + r.IntN(5) {
			chars = append(chars, group[r.IntN(len(group))])
		}
	}
	return chars[:n]
}

// randomSequence returns a sequence with n further values that Chars accepts.
func randomSequence(r *rand.Rand, n int) []int {
	for {
		values := []int{103 + r.IntN(3)}
		for range n {
			v := r.IntN(103)
			if r.IntN(3) == 0 {
				v = 96 + r.IntN(7)
			}
			if values[len(values)-1] == 98 {
				v = r.IntN(96)
			}
			values = append(values, v)
		}
		if _, e := wantChars(finished(values...)); e == api.OK {
			return finished(values...)
		}
	}
}

// valuesOf returns the values of characters that Values must accept.
func valuesOf(t *testing.T, chars []int) []int {
	t.Helper()
	values, e := code128.Values(chars)
	if e != api.OK {
		t.Fatalf("Values(%v): %d", chars, e)
	}
	return values
}
