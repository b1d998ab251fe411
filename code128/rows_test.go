package code128_test

import (
	"slices"
	"strings"
	"testing"

	"barscan/api"
	"barscan/code128"
	"barscan/runs"
)

// TestPattern checks P13.4 for all values, and that a result is new memory.
func TestPattern(t *testing.T) {
	if len(patterns) != 107 {
		t.Fatalf("%d patterns", len(patterns))
	}
	for value, want := range patterns {
		for range 2 {
			got, e := code128.Pattern(value)
			text := ""
			for _, w := range got {
				text += string(rune('0' + w))
			}
			if text != want || e != api.OK {
				t.Errorf("Pattern(%d) = %v, %d, want %s", value, got, e, want)
			}
			clear(got)
		}
	}
	for _, value := range notValues {
		if got, e := code128.Pattern(value); got != nil || e != api.ErrRange {
			t.Errorf("Pattern(%d) = %v, %d", value, got, e)
		}
	}
}

// TestEncode checks P13.5 for the modules of characters.
func TestEncode(t *testing.T) {
	r := newRand()
	for n := 1; n < 60; n++ {
		for range 5 {
			chars := randomChars(r, n)
			before := slices.Clone(chars)
			row, e := code128.Encode(chars)
			if want := framed(symbolOf(valuesOf(t, chars))); textOf(row) != want || e != api.OK {
				t.Fatalf("Encode(%v) = %s, %d, want %s", chars, textOf(row), e, want)
			}
			if !slices.Equal(chars, before) {
				t.Fatalf("Encode changed %v to %v", before, chars)
			}
		}
	}
	row, e := code128.Encode([]int{0})
	if want := zeros(10) + "11010000100" + "10100001100" + "10100001100" + "1100011101011" + zeros(10); textOf(row) != want || e != api.OK {
		t.Errorf("Encode of NUL = %s, %d, want %s", textOf(row), e, want)
	}
}

// TestEncodeErrors checks P13.5 for the errors.
func TestEncodeErrors(t *testing.T) {
	if row, e := code128.Encode(nil); row != nil || e != api.ErrEmpty {
		t.Errorf("Encode of nothing: %d modules, %d", len(row), e)
	}
	for _, c := range notChars {
		if row, e := code128.Encode([]int{'a', c}); row != nil || e != api.ErrChar {
			t.Errorf("Encode with %d: %d modules, %d", c, len(row), e)
		}
		if row, e := code128.Encode(append(repeated(api.MaxText, 'a'), c)); row != nil || e != api.ErrLong {
			t.Errorf("Encode of too many characters with %d: %d modules, %d", c, len(row), e)
		}
	}
	// A row of 5954 values before the stop value has 11 * 5954 + 13 + 20 = 65527 modules.
	for n, want := range map[int]api.Errno{100: api.OK, 252: api.OK, 253: api.ErrLong, 254: api.ErrLong, 255: api.ErrLong, 256: api.ErrLong, 296: api.ErrLong} {
		chars := append(repeated(1900, 'a', 1), repeated(n, 1)...)
		if values := valuesOf(t, chars); len(values) != 5700+n+3 {
			t.Fatalf("%d values", len(values))
		}
		row, e := code128.Encode(chars)
		if e != want || e == api.OK && len(row) != 11*(5702+n)+33 || e != api.OK && row != nil {
			t.Errorf("Encode of %d values: %d modules, %d, want %d", 5703+n, len(row), e, want)
		}
	}
	if row, e := code128.Encode(repeated(2048, 'a', 1)); row != nil || e != api.ErrLong {
		t.Errorf("Encode of the most values: %d modules, %d", len(row), e)
	}
	// A limit on all widths together, or on the modules between the quiet zones, would be too generous.
	if row, e := code128.Encode(repeated(4096, 'a')); len(row) != 11*4098+33 || e != api.OK {
		t.Errorf("Encode of 4096 characters: %d modules, %d", len(row), e)
	}
}

// wantDecode returns what Decode returns for a row.
func wantDecode(row string) ([]int, api.Errno) {
	inner := strings.Trim(row, "0")
	if inner == "" {
		return nil, api.ErrEmpty
	}
	if !strings.HasPrefix(row, zeros(10)) || !strings.HasSuffix(row, zeros(10)) {
		return nil, api.ErrForm
	}
	widths := runs.Widths(rowOf(inner))
	n := len(widths)
	if k := (n - 7) / 6; n != 6*k+7 || k < 2 {
		return nil, api.ErrLength
	}
	if !slices.Equal(widths[n-7:], []int{2, 3, 3, 1, 1, 1, 2}) {
		return nil, api.ErrStop
	}
	var values []int
	for part := range slices.Chunk(widths[:n-7], 6) {
		text := ""
		for _, w := range part {
			text += string(rune('0' + w))
		}
		value := slices.Index(patterns, text)
		if value < 0 {
			return nil, api.ErrPattern
		}
		values = append(values, value)
	}
	return wantChars(append(values, 106))
}

// checkDecode compares Decode of a row with the reference.
func checkDecode(t *testing.T, row string) api.Errno {
	t.Helper()
	got, e := code128.Decode(rowOf(row))
	want, fault := wantDecode(row)
	if !slices.Equal(got, want) || e != fault {
		t.Fatalf("Decode(%s) = %v, %d, want %v, %d", row, got, e, want, fault)
	}
	return e
}

// TestDecodeErrors checks P13.6 for the errors and their order.
func TestDecodeErrors(t *testing.T) {
	stop := bars("2331112")
	right := symbolOf(finished(104, 65, 17))
	for _, c := range []struct {
		name, row string
		want      api.Errno
	}{
		{"none", "", api.ErrEmpty},
		{"one light", "0", api.ErrEmpty},
		{"light", zeros(1000), api.ErrEmpty},
		{"one dark", "1", api.ErrForm},
		{"dark", strings.Repeat("1", 1000), api.ErrForm},
		{"no quiet zones", right, api.ErrForm},
		{"9 light modules on the left", zeros(9) + right + zeros(100), api.ErrForm},
		{"9 light modules on the right", zeros(100) + right + zeros(9), api.ErrForm},
		{"9 light modules on the left, one dark", zeros(9) + "1" + zeros(10), api.ErrForm},
		{"10 light modules", framed(right), api.OK},
		{"other numbers of light modules", zeros(10) + right + zeros(500), api.OK},
		{"one dark with quiet zones", framed("1"), api.ErrLength},
		{"stop alone", framed(stop), api.ErrLength},
		{"one value and stop", framed(symbolOf([]int{104}) + stop), api.ErrLength},
		{"two values and stop", framed(symbolOf([]int{104, 1}) + stop), api.OK},
		{"two values and stop, check", framed(symbolOf([]int{104, 2}) + stop), api.ErrCheck},
		{"a bar less", framed(right[:len(right)-3]), api.ErrLength},
		{"a bar more", framed(right + "01"), api.ErrLength},
		{"two bars more", framed(right + "0101"), api.ErrLength},
		{"three bars more", framed(right + "010101"), api.ErrStop},
		{"two bars before", framed("1010" + right), api.ErrLength},
		{"stop with a width more", framed(right + "1"), api.ErrStop},
		{"stop with a width less", framed(right[:len(right)-1]), api.ErrStop},
		{"stop as the first value", framed(strings.TrimSuffix(right, stop) + bars("211412") + "1"), api.ErrStop},
		{"stop and pattern", framed(bars("211215") + symbolOf([]int{65, 17, 100}) + stop + "1"), api.ErrStop},
		{"pattern", framed(bars("211215") + symbolOf([]int{65, 17, 100}) + stop), api.ErrPattern},
		{"pattern of eleven modules", framed(bars("111116") + symbolOf([]int{65, 17, 100}) + stop), api.ErrPattern},
		{"pattern in the middle", framed(symbolOf([]int{104}) + bars("111611") + symbolOf([]int{17, 100}) + stop), api.ErrPattern},
		{"pattern before start", framed(symbolOf([]int{65, 17}) + bars("111611") + stop), api.ErrPattern},
		{"wide bars", framed(bars("211214") + bars("999999") + symbolOf([]int{100}) + stop), api.ErrPattern},
		{"two pixels for a module", framed(strings.NewReplacer("0", "00", "1", "11").Replace(right)), api.ErrStop},
		{"start", framed(symbolOf([]int{65, 17, 100}) + stop), api.ErrStart},
		{"start and check", framed(symbolOf([]int{102, 17, 3}) + stop), api.ErrStart},
		{"check", framed(symbolOf([]int{104, 65, 17, 99}) + stop), api.ErrCheck},
		{"check and mode", framed(symbolOf([]int{104, 98, 98, 0}) + stop), api.ErrCheck},
		{"mode", framed(symbolOf(finished(104, 98, 98))), api.ErrMode},
		{"mode, start value", framed(symbolOf(finished(104, 103))), api.ErrMode},
	} {
		got, e := code128.Decode(rowOf(c.row))
		if e != c.want || e != api.OK && got != nil {
			t.Errorf("%s: %v, %d, want %d", c.name, got, e, c.want)
		}
		checkDecode(t, c.row)
	}
	if row := framed(right); checkDecode(t, backward(row)) == api.OK {
		t.Errorf("the row is read from right to left")
	}
}

// backward returns a row from right to left.
func backward(row string) string {
	b := []byte(row)
	slices.Reverse(b)
	return string(b)
}

// TestDecodeWideModules checks P13.6 for widths that are not single digits: none of them may be taken for a pattern's.
func TestDecodeWideModules(t *testing.T) {
	values := finished(104, 65, 17)
	for more := range 300 {
		for at := range 6 {
			widths := ""
			for i, w := range patterns[65] {
				n := int(w - '0')
				if i == at {
					n += more
				}
				widths += strings.Repeat([]string{"1", "0"}[i%2], n)
			}
			row := framed(symbolOf(values[:1]) + widths + symbolOf(values[2:]))
			if e := checkDecode(t, row); (e == api.OK) != (more == 0) {
				t.Errorf("%d modules more at width %d: %d", more, at, e)
			}
		}
	}
}

// TestDecodeLong checks P13.6 for rows of any length.
func TestDecodeLong(t *testing.T) {
	want := charsOf("a1")
	symbol := symbolOf(finished(104, 65, 17))
	for _, c := range [][2]int{{10, api.MaxRow}, {api.MaxRow, 10}, {300000, 200000}} {
		row := rowOf(zeros(c[0]) + symbol + zeros(c[1]))
		if got, e := code128.Decode(row); !slices.Equal(got, want) || e != api.OK {
			t.Errorf("Decode of %d modules = %v, %d", len(row), got, e)
		}
	}
	values := finished(append([]int{105}, repeated(7000, 12)...)...)
	row := rowOf(framed(symbolOf(values)))
	if got, e := code128.Decode(row); !slices.Equal(got, repeated(7000, '1', '2')) || e != api.OK {
		t.Errorf("Decode of %d modules: %d characters, %d", len(row), len(got), e)
	}
}

// TestDecodeChanged checks P13.6 for symbols in which one module or two neighbours are changed, or two others.
func TestDecodeChanged(t *testing.T) {
	r := newRand()
	flipped := func(row string, places ...int) string {
		b := []byte(row)
		for _, i := range places {
			b[i] = '0' + '1' - b[i]
		}
		return string(b)
	}
	for n := range 15 {
		row := framed(symbolOf(randomSequence(r, n)))
		for i := range row {
			checkDecode(t, flipped(row, i))
			checkDecode(t, flipped(row, i, (i+1)%len(row)))
			checkDecode(t, flipped(row, i, (i+1+r.IntN(len(row)-1))%len(row)))
		}
	}
}

// TestDecodeRandom checks P13.6 for symbols of random values, which give all errors of sequences.
func TestDecodeRandom(t *testing.T) {
	r := newRand()
	count := map[api.Errno]int{}
	for range 5000 {
		values := []int{103 + r.IntN(3)}
		for range r.IntN(8) {
			values = append(values, r.IntN(106))
		}
		values = finished(values...)
		if r.IntN(3) == 0 {
			values[r.IntN(len(values)-1)] = r.IntN(106)
		}
		row := symbolOf(values)
		if r.IntN(10) == 0 {
			at := r.IntN(len(row) - 1)
			row = row[:at] + row[at+1:]
		}
		count[checkDecode(t, zeros(9+r.IntN(30))+row+zeros(9+r.IntN(30)))]++
	}
	for _, e := range []api.Errno{api.OK, api.ErrForm, api.ErrStart, api.ErrCheck, api.ErrMode, api.ErrPattern} {
		if count[e] < 20 {
			t.Errorf("error %d only %d times", e, count[e])
		}
	}
	for n := range 200 {
		row := make([]byte, n)
		for i := range row {
			row[i] = byte('0' + r.IntN(2))
		}
		checkDecode(t, framed(string(row)))
		checkDecode(t, framed(string(row)+bars("2331112")))
		checkDecode(t, string(row))
	}
}
