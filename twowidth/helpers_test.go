package twowidth_test

import (
	"math/rand/v2"
	"slices"
	"strings"
	"testing"

	"barscan/api"
	"barscan/twowidth"
)

// kinds are the kinds of the layer.
var kinds = []api.SymOp{api.Code39, api.Codabar, api.ITF}

// notKinds are numbers that are not kinds of the layer.
var notKinds = []api.SymOp{0, -1, api.EAN13, api.EAN8, api.UPCA, api.UPCE, api.Code128, api.GS1128, api.QRCode, api.Stacked, 14, 1 << 32}

// The characters of the texts.
const (
	code39Text  = "0123456789ABCDEFGHIJKLMNOPQRSTUVWXYZ-. $/+%"
	codabarText = "0123456789-$:/.+"
	codabarEnds = "ABCD"
	itfText     = "0123456789"
)

// patterns are the patterns of the kinds as the chapter writes them, a character and its elements in turn.
var patterns = map[api.SymOp]string{
	api.Code39: `
    0 nnnwwnwnn   B nnwnnwnnw   M wnwnnnnwn   X nwnnwnnnw
    1 wnnwnnnnw   C wnwnnwnnn   N nnnnwnnww   Y wwnnwnnnn
    2 nnwwnnnnw   D nnnnwwnnw   O wnnnwnnwn   Z nwwnwnnnn
    3 wnwwnnnnn   E wnnnwwnnn   P nnwnwnnwn   - nwnnnnwnw
    4 nnnwwnnnw   F nnwnwwnnn   Q nnnnnnwww   . wwnnnnwnn
    5 wnnwwnnnn   G nnnnnwwnw   R wnnnnnwwn   space nwwnnnwnn
    6 nnwwwnnnn   H wnnnnwwnn   S nnwnnnwwn   $ nwnwnwnnn
    7 nnnwnnwnw   I nnwnnwwnn   T nnnnwnwwn   / nwnwnnnwn
    8 wnnwnnwnn   J nnnnwwwnn   U wwnnnnnnw   + nwnnnwnwn
    9 nnwwnnwnn   K wnnnnnnww   V nwwnnnnnw   % nnnwnwnwn
    A wnnnnwnnw   L nnwnnnnww   W wwwnnnnnn   * nwnnwnwnn`,
	api.Codabar: `
    0 nnnnnww   5 wnnnnwn   - nnnwwnn   A nnwwnwn
    1 nnnnwwn   6 nwnnnnw   $ nnwwnnn   B nwnwnnw
    2 nnnwnnw   7 nwnnwnn   : wnnnwnw   C nnnwnww
    3 wwnnnnn   8 nwwnnnn   / wnwnnnw   D nnnwwwn
    4 nnwnnwn   9 wnnwnnn   . wnwnwnn
                            + nnwnwnw`,
	api.ITF: `
    0 nnwwn   2 nwnnw   4 nnwnw   6 nwwnn   8 wnnwn
    1 wnnnw   3 wwnnn   5 wnwnn   7 nnnww   9 nwnwn`,
}

// patternOf returns the pattern of a character, or the empty string.
func patternOf(kind api.SymOp, char byte) string {
	name := string(rune(char))
	if char == ' ' {
		name = "space"
	}
	fields := strings.Fields(patterns[kind])
	for i := 0; i < len(fields); i += 2 {
		if fields[i] == name {
			return fields[i+1]
		}
	}
	return ""
}

// checkCharacter returns the check character of a text.
func checkCharacter(kind api.SymOp, text string) string {
	sum := 0
	switch kind {
	case api.Code39:
		for i := range len(text) {
			sum += strings.IndexByte(code39Text, text[i])
		}
		return code39Text[sum%43 : sum%43+1]
	case api.Codabar:
		for i := range len(text) {
			sum += strings.IndexByte(codabarText+codabarEnds, text[i])
		}
		return codabarText[(1600000-sum)%16 : (1600000-sum)%16+1]
	}
	for i := range len(text) {
		digit := int(text[len(text)-1-i] - '0')
		sum += digit + 2*digit*((i+1)%2)
	}
	return string(rune('0' + (1000000-sum)%10))
}

// withCheck returns a text with its check character.
func withCheck(kind api.SymOp, text string) string {
	at := len(text)
	if kind == api.Codabar {
		at--
	}
	return text[:at] + checkCharacter(kind, text) + text[at:]
}

// elementsOf returns the elements of a text, which includes the check character if there is one.
func elementsOf(kind api.SymOp, text string) string {
	if kind != api.ITF {
		if kind == api.Code39 {
			text = "*" + text + "*"
		}
		s := ""
		for i := range len(text) {
			s += patternOf(kind, text[i]) + "n"
		}
		return s[:len(s)-1]
	}
	s := "nnnn"
	for i := 0; i < len(text); i += 2 {
		for j := range 5 {
			s += patternOf(kind, text[i])[j:j+1] + patternOf(kind, text[i+1])[j:j+1]
		}
	}
	return s + "wnn"
}

// widthsOf returns the widths of elements.
func widthsOf(elements string, narrow, wide int) []int {
	var widths []int
	for _, c := range elements {
		w := narrow
		if c == 'w' {
			w = wide
		}
		widths = append(widths, w)
	}
	return widths
}

// randomFrom returns n of the characters.
func randomFrom(r *rand.Rand, characters string, n int) string {
	s := make([]byte, n)
	for i := range s {
		s[i] = characters[r.IntN(len(characters))]
	}
	return string(s)
}

// randomText returns a text of about n characters that can be encoded.
func randomText(r *rand.Rand, kind api.SymOp, n int, check bool) string {
	switch kind {
	case api.Code39:
		return randomFrom(r, code39Text, n)
	case api.Codabar:
		return randomFrom(r, codabarEnds, 1) + randomFrom(r, codabarText, max(n-2, 0)) + randomFrom(r, codabarEnds, 1)
	}
	n = max(n/2*2, 2)
	if check {
		n--
	}
	return randomFrom(r, itfText, n)
}

// A symbol is an encoded text.
type symbol struct {
	kind   api.SymOp
	text   string
	o      api.LinearOptions
	widths []int
}

// randomSymbols returns symbols of all kinds and options, some of them for each number of characters up to limit.
func randomSymbols(t *testing.T, limit int) []symbol {
	t.Helper()
	r := rand.New(rand.NewPCG(12, 13))
	var list []symbol
	for _, kind := range kinds {
		for n := 1; n <= limit; n++ {
			for i := range 4 {
				o := api.LinearOptions{Ratio: 2 + i%2, Check: i/2 == 1, AddOn: "ignored"}
				text := randomText(r, kind, n, o.Check)
				list = append(list, symbol{kind, text, o, encoded(t, kind, text, o)})
			}
		}
	}
	return list
}

// encoded returns the widths of a text that Encode must accept.
func encoded(t *testing.T, kind api.SymOp, text string, o api.LinearOptions) []int {
	t.Helper()
	widths, e := twowidth.Encode(kind, text, o)
	if e != api.OK {
		t.Fatalf("Encode(%d, %q, %v): %d", kind, text, o, e)
	}
	return widths
}

// scaled returns widths multiplied by a number.
func scaled(widths []int, k int) []int {
	out := slices.Clone(widths)
	for i := range out {
		out[i] *= k
	}
	return out
}

// ratio returns options with a ratio.
func ratio(n int) api.LinearOptions {
	return api.LinearOptions{Ratio: n}
}

// checked returns options with a ratio and a check character.
func checked(n int) api.LinearOptions {
	return api.LinearOptions{Ratio: n, Check: true}
}
