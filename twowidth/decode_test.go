package twowidth_test

import (
	"math/rand/v2"
	"slices"
	"strings"
	"testing"

	"barscan/api"
	"barscan/runs"
	"barscan/twowidth"
)

// fits returns whether the symbol of a text can have n elements, as the chapter lists the numbers.
func fits(kind api.SymOp, n int, check bool) bool {
	more := 0
	if check {
		more = 1
	}
	switch kind {
	case api.Code39:
		return n%10 == 9 && (n+1)/10 >= 3+more && (n+1)/10 <= 1002+more
	case api.Codabar:
		return n%8 == 7 && (n+1)/8 >= 2+more && (n+1)/8 <= 1000+more
	}
	return n%10 == 7 && n >= 17 && n <= 5007
}

// charactersOf returns the characters of a kind by their patterns.
func charactersOf(kind api.SymOp) map[string]string {
	fields := strings.Fields(patterns[kind])
	m := map[string]string{}
	for i := 0; i < len(fields); i += 2 {
		m[fields[i+1]] = strings.ReplaceAll(fields[i], "space", " ")
	}
	return m
}

// wantCharacters returns the text of the elements of Code 39 or Codabar.
func wantCharacters(kind api.SymOp, elements string) (string, api.Errno) {
	size, ends, data := 9, "*", code39Text
	if kind == api.Codabar {
		size, ends, data = 7, codabarEnds, codabarText
	}
	characters := charactersOf(kind)
	elements = "n" + elements
	count := len(elements) / (size + 1)
	text := ""
	for i := range count {
		part := elements[i*(size+1) : (i+1)*(size+1)]
		if part[0] == 'w' {
			return "", api.ErrPattern
		}
		c, ok := characters[part[1:]]
		isEnd, isData := ok && strings.Contains(ends, c), ok && strings.Contains(data, c)
		switch {
		case i == 0 && !isEnd:
			return "", api.ErrStart
		case i == count-1 && !isEnd:
			return "", api.ErrStop
		case i > 0 && i < count-1 && !isData:
			return "", api.ErrPattern
		}
		text += c
	}
	return strings.Trim(text, "*"), api.OK
}

// wantPairs returns the text of the elements of ITF.
func wantPairs(elements string) (string, api.Errno) {
	if strings.Contains(elements[:4], "w") {
		return "", api.ErrStart
	}
	text := ""
	for i := 4; i+3 < len(elements); i += 10 {
		parts := []string{"", ""}
		for j, c := range elements[i : i+10] {
			parts[j%2] += string(c)
		}
		for _, part := range parts {
			c, ok := charactersOf(api.ITF)[part]
			if !ok {
				return "", api.ErrPattern
			}
			text += c
		}
	}
	if !strings.HasSuffix(elements, "wnn") {
		return "", api.ErrStop
	}
	return text, api.OK
}

// wantDecode returns what Decode returns for widths.
func wantDecode(kind api.SymOp, widths []int, check bool) (string, api.Errno) {
	if !fits(kind, len(widths), check) {
		return "", api.ErrLength
	}
	wide, e := runs.Wide(widths)
	if e != api.OK {
		return "", e
	}
	elements := ""
	for _, w := range wide {
		elements += map[bool]string{false: "n", true: "w"}[w]
	}
	text := ""
	if kind == api.ITF {
		text, e = wantPairs(elements)
	} else {
		text, e = wantCharacters(kind, elements)
	}
	if e != api.OK || !check {
		return text, e
	}
	at := len(text) - 1
	if kind == api.Codabar {
		at--
	}
	plain := text[:at] + text[at+1:]
	if withCheck(kind, plain) != text {
		return "", api.ErrCheck
	}
	return plain, api.OK
}

// checkDecode compares Decode with the reference.
func checkDecode(t *testing.T, kind api.SymOp, widths []int, check bool) api.Errno {
	t.Helper()
	got, e := twowidth.Decode(kind, widths, check)
	want, fault := wantDecode(kind, widths, check)
	if got != want || e != fault {
		t.Fatalf("Decode(%d, %v, %v) = %q, %d, want %q, %d", kind, widths, check, got, e, want, fault)
	}
	return e
}

// TestDecode checks P12.3 for the symbols of texts, with and without verifying a check character, and read as other kinds.
func TestDecode(t *testing.T) {
	for _, s := range randomSymbols(t, 25) {
		for _, kind := range kinds {
			for _, check := range []bool{false, true} {
				checkDecode(t, kind, s.widths, check)
			}
		}
		if got, e := twowidth.Decode(s.kind, s.widths, s.o.Check); got != s.text || e != api.OK {
			t.Errorf("Decode of %q = %q, %d", s.text, got, e)
		}
	}
}

// TestDecodeLengths checks P12.3 for all numbers of widths: with narrow widths only, each number that is possible gives another error than ErrLength.
func TestDecodeLengths(t *testing.T) {
	widths := slices.Repeat([]int{1}, 10060)
	for _, kind := range kinds {
		for _, check := range []bool{false, true} {
			for n := range widths {
				want := api.ErrLength
				if fits(kind, n, check) {
					want = map[api.SymOp]api.Errno{api.Code39: api.ErrStart, api.Codabar: api.ErrStart, api.ITF: api.ErrPattern}[kind]
				}
				if got, e := twowidth.Decode(kind, widths[:n], check); e != want || got != "" {
					t.Fatalf("Decode of kind %d with %d widths, %v = %q, %d, want %d", kind, n, check, got, e, want)
				}
			}
		}
	}
}

// TestDecodeLongest checks P12.3 for the longest symbols, and for the next longer ones.
func TestDecodeLongest(t *testing.T) {
	for _, check := range []bool{false, true} {
		for _, c := range []struct {
			kind    api.SymOp
			longest string
			longer  string
		}{
			{api.Code39, strings.Repeat("K", 1000), strings.Repeat("K", 1001)},
			{api.Codabar, "B" + strings.Repeat("$", 998) + "B", "B" + strings.Repeat("$", 999) + "B"},
			{api.ITF, strings.Repeat("72", 500), strings.Repeat("72", 501)},
		} {
			if check && c.kind == api.ITF {
				c.longest, c.longer = c.longest[1:], c.longer[1:]
			}
			full := func(text string) []int {
				if check {
					text = withCheck(c.kind, text)
				}
				return widthsOf(elementsOf(c.kind, text), 3, 7)
			}
			if got, e := twowidth.Decode(c.kind, full(c.longest), check); got != c.longest || e != api.OK {
				t.Errorf("Decode of %d characters: %d characters, %d", len(c.longest), len(got), e)
			}
			if got, e := twowidth.Decode(c.kind, full(c.longer), check); got != "" || e != api.ErrLength {
				t.Errorf("Decode of %d characters: %d characters, %d", len(c.longer), len(got), e)
			}
		}
	}
}

// TestDecodeErrors checks P12.3 for wrong symbols, and the order of the errors.
func TestDecodeErrors(t *testing.T) {
	for _, kind := range notKinds {
		for _, widths := range [][]int{nil, {0}, widthsOf(elementsOf(api.Code39, "A"), 1, 2)} {
			if got, e := twowidth.Decode(kind, widths, false); e != api.ErrArg || got != "" {
				t.Errorf("Decode with the kind %d: %q, %d", kind, got, e)
			}
		}
	}
	code39 := func(text string) string { return elementsOf(api.Code39, text) }
	codabar := func(text string) string { return elementsOf(api.Codabar, text) }
	itf := func(text string) string { return elementsOf(api.ITF, text) }
	star, a := patternOf(api.Code39, '*'), patternOf(api.Code39, 'A')
	for _, c := range []struct {
		name     string
		kind     api.SymOp
		elements string
		check    bool
		want     api.Errno
	}{
		{"asterisks alone", api.Code39, star + "n" + star, false, api.ErrLength},
		{"one asterisk", api.Code39, star, false, api.ErrLength},
		{"no place for a check character", api.Code39, code39("A"), true, api.ErrLength},
		{"no asterisk at the start", api.Code39, a + "n" + a + "n" + star, false, api.ErrStart},
		{"no pattern at the start", api.Code39, "wwwwwwwww" + "n" + a + "n" + star, false, api.ErrStart},
		{"no asterisk at the start, wide space", api.Code39, a + "w" + a + "n" + star, false, api.ErrStart},
		{"wide space, no pattern", api.Code39, star + "w" + "wwwwwwwww" + "n" + star, false, api.ErrPattern},
		{"wide space before the last asterisk", api.Code39, star + "n" + a + "w" + star, false, api.ErrPattern},
		{"wide space before what is not an asterisk", api.Code39, star + "n" + a + "w" + a, false, api.ErrPattern},
		{"asterisk inside", api.Code39, star + "n" + star + "n" + star, false, api.ErrPattern},
		{"no pattern inside", api.Code39, star + "n" + "nnnnnnnnw" + "n" + star, false, api.ErrPattern},
		{"no pattern inside, no asterisk at the end", api.Code39, star + "n" + "nnnnnnnnw" + "n" + a, false, api.ErrPattern},
		{"no asterisk at the end", api.Code39, star + "n" + a + "n" + a, false, api.ErrStop},
		{"no pattern at the end", api.Code39, star + "n" + a + "n" + "wwwwwwwww", false, api.ErrStop},
		{"wrong check character", api.Code39, code39("AB"), true, api.ErrCheck},
		{"asterisk as the check character", api.Code39, code39("A*"), true, api.ErrPattern},
		{"all narrow", api.Code39, strings.Repeat("n", 29), false, api.ErrStart},
		{"one character", api.Codabar, codabar("A"), false, api.ErrLength},
		{"no place for a check character", api.Codabar, codabar("AB"), true, api.ErrLength},
		{"digit at the start", api.Codabar, codabar("11B"), false, api.ErrStart},
		{"digit at both ends", api.Codabar, codabar("11"), false, api.ErrStart},
		{"no pattern at the start", api.Codabar, "wwwwwww" + "w" + codabar("1B"), false, api.ErrStart},
		{"letter inside", api.Codabar, codabar("AAB"), false, api.ErrPattern},
		{"letter inside, digit at the end", api.Codabar, codabar("AA1"), false, api.ErrPattern},
		{"wide space", api.Codabar, codabar("A") + "w" + codabar("1B"), false, api.ErrPattern},
		{"wide space before the last character", api.Codabar, codabar("A1") + "w" + codabar("1"), false, api.ErrPattern},
		{"digit at the end", api.Codabar, codabar("A11"), false, api.ErrStop},
		{"no pattern at the end", api.Codabar, codabar("A1") + "n" + "wwwwwww", false, api.ErrStop},
		{"wrong check character", api.Codabar, codabar("A1-B"), true, api.ErrCheck},
		{"letter as the check character", api.Codabar, codabar("A1AB"), true, api.ErrPattern},
		{"no digits", api.ITF, "nnnn" + "wnn", false, api.ErrLength},
		{"no digits, with check", api.ITF, "nnnn" + "wnn", true, api.ErrLength},
		{"wide first element", api.ITF, "w" + itf("12")[1:], false, api.ErrStart},
		{"wide second element", api.ITF, "nw" + itf("12")[2:], false, api.ErrStart},
		{"wide third element", api.ITF, "nnw" + itf("12")[3:], false, api.ErrStart},
		{"wide fourth element", api.ITF, "nnnw" + itf("12")[4:], false, api.ErrStart},
		{"wide start, wrong end", api.ITF, "nnnw" + "nnnnnnnnnn" + "nnn", false, api.ErrStart},
		{"no digit", api.ITF, "nnnn" + "wwwwwwwwww" + "wnn", false, api.ErrPattern},
		{"no digit in the bars", api.ITF, "nnnn" + "nnnnwnwnnn" + "wnn", false, api.ErrPattern},
		{"no digit in the spaces", api.ITF, "nnnn" + "nnnnwnwnnn" + "wnn", false, api.ErrPattern},
		{"no digit, wrong end", api.ITF, "nnnn" + "nnnnnnnnnn" + "wwn", false, api.ErrPattern},
		{"narrow end", api.ITF, itf("12")[:14] + "nnn", false, api.ErrStop},
		{"wide space in the end", api.ITF, itf("12")[:14] + "wwn", false, api.ErrStop},
		{"wide bar at the end", api.ITF, itf("12")[:14] + "wnw", false, api.ErrStop},
		{"wrong end, wrong check digit", api.ITF, itf("12")[:14] + "wnw", true, api.ErrStop},
		{"wrong check digit", api.ITF, itf("12"), true, api.ErrCheck},
	} {
		widths := widthsOf(c.elements, 1, 3)
		if got, e := twowidth.Decode(c.kind, widths, c.check); e != c.want || got != "" {
			t.Errorf("%s (%d): %q, %d, want %d", c.name, c.kind, got, e, c.want)
		}
		checkDecode(t, c.kind, widths, c.check)
	}
}

// TestDecodeWidths checks P12.3 for the errors of runs.Wide, which come after ErrLength and before those of the elements.
func TestDecodeWidths(t *testing.T) {
	for _, kind := range kinds {
		text := map[api.SymOp]string{api.Code39: "A1", api.Codabar: "A1B", api.ITF: "12"}[kind]
		elements := elementsOf(kind, text)
		for i := range elements {
			for _, w := range []int{0, -1, api.MaxRow + 1, 1 << 32} {
				widths := widthsOf(elements, 2, 4)
				widths[i] = w
				if got, e := twowidth.Decode(kind, widths, false); e != api.ErrRange || got != "" {
					t.Errorf("Decode with the width %d: %q, %d", w, got, e)
				}
				if got, e := twowidth.Decode(kind, append(widths, 1), false); e != api.ErrLength || got != "" {
					t.Errorf("Decode of %d widths: %q, %d", len(widths)+1, got, e)
				}
			}
			widths := widthsOf(elements, 4, 8)
			widths[i] = 6
			if got, e := twowidth.Decode(kind, widths, false); e != api.ErrPattern || got != "" {
				t.Errorf("Decode with a width between: %q, %d", got, e)
			}
		}
		// The wrong start is not looked at if the widths are not clear.
		widths := widthsOf(strings.Repeat("w", len(elements)), 4, 8)
		widths[0], widths[1] = 4, 6
		if got, e := twowidth.Decode(kind, widths, false); e != api.ErrPattern || got != "" {
			t.Errorf("Decode of unclear widths: %q, %d", got, e)
		}
	}
}

// TestDecodeChanged checks P12.3 for symbols of which some elements are changed or some widths are random.
func TestDecodeChanged(t *testing.T) {
	r := rand.New(rand.NewPCG(3, 9))
	count := map[api.Errno]int{}
	for _, s := range randomSymbols(t, 12) {
		for range 40 {
			widths := scaled(s.widths, 2)
			for range 1 + r.IntN(3) {
				widths[r.IntN(len(widths))] = 2 + r.IntN(2)*(1+r.IntN(4))
			}
			count[checkDecode(t, s.kind, widths, r.IntN(4) > 0 && s.o.Check)]++
		}
	}
	for _, e := range []api.Errno{api.OK, api.ErrPattern, api.ErrStart, api.ErrStop} {
		if count[e] < 20 {
			t.Errorf("error %d only %d times", e, count[e])
		}
	}
}

// TestDecodeCheck checks P12.3 for all check characters, right and wrong ones.
func TestDecodeCheck(t *testing.T) {
	r := rand.New(rand.NewPCG(3, 10))
	for _, kind := range kinds {
		data := map[api.SymOp]string{api.Code39: code39Text, api.Codabar: codabarText, api.ITF: itfText}[kind]
		for range 20 {
			text := randomText(r, kind, 8, true)
			right := 0
			for i := range data {
				at := len(text)
				if kind == api.Codabar {
					at--
				}
				full := text[:at] + data[i:i+1] + text[at:]
				want, fault := "", api.ErrCheck
				if data[i:i+1] == checkCharacter(kind, text) {
					want, fault = text, api.OK
					right++
				}
				widths := widthsOf(elementsOf(kind, full), 1, 2)
				if got, e := twowidth.Decode(kind, widths, true); got != want || e != fault {
					t.Errorf("Decode of %q = %q, %d, want %q, %d", full, got, e, want, fault)
				}
				if got, e := twowidth.Decode(kind, widths, false); got != full || e != api.OK {
					t.Errorf("Decode of %q without check = %q, %d", full, got, e)
				}
			}
			if right != 1 {
				t.Errorf("%d right check characters for %q", right, text)
			}
		}
	}
}

// TestDecodeArgument checks that Decode does not change the widths.
func TestDecodeArgument(t *testing.T) {
	for _, s := range randomSymbols(t, 3) {
		before := slices.Clone(s.widths)
		if _, e := twowidth.Decode(s.kind, s.widths, s.o.Check); e != api.OK || !slices.Equal(s.widths, before) {
			t.Errorf("Decode: %d, %v", e, s.widths)
		}
	}
}
