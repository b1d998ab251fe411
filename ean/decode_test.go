package ean_test

import (
	"fmt"
	"math/rand/v2"
	"slices"
	"strings"
	"testing"

	"barscan/api"
	"barscan/ean"
)

// checkDecode compares Decode of a row with the reference.
func checkDecode(t *testing.T, row string) api.Errno {
	t.Helper()
	got, e := ean.Decode(rowOf(row))
	want, fault := wantDecode(row)
	if got != want || e != fault {
		t.Fatalf("Decode(%s) = %v, %d, want %v, %d", row, got, e, want, fault)
	}
	return e
}

// framed returns modules with the least quiet zones.
func framed(modules string) string {
	return zeros(7) + modules + zeros(7)
}

// flipped returns modules of which some are changed.
func flipped(modules string, places ...int) string {
	b := []byte(modules)
	for _, i := range places {
		b[i] = '0' + '1' - b[i]
	}
	return string(b)
}

// TestDecodeShapes checks P11.2 for all kinds, add-ons and gaps between them.
func TestDecodeShapes(t *testing.T) {
	r := newRand()
	for _, kind := range kinds {
		for _, n := range []int{0, 2, 5} {
			for gap := range 20 {
				text, addOn := randomText(r, kind), randomDigits(r, n)
				if kind == api.EAN13 {
					text = "4" + text[1:12]
					text += checkOf(kind, text)
				}
				row, want := symbolText(kind, text), api.Linear{Kind: kind, Text: text, AddOn: addOn}
				if n > 0 {
					row += zeros(gap) + addOnText(addOn)
				}
				got, e := ean.Decode(rowOf(framed(row)))
				switch {
				case n == 0 || gap >= 7 && gap <= 12:
					if got != want || e != api.OK {
						t.Errorf("Decode(%s) = %v, %d, want %v", row, got, e, want)
					}
				case e == api.OK:
					t.Errorf("Decode(%s) = %v with a gap of %d", row, got, gap)
				}
				checkDecode(t, framed(row))
			}
		}
	}
}

// TestDecodeErrors checks P11.2 for rows without a symbol, and the order of the errors.
func TestDecodeErrors(t *testing.T) {
	ean8 := symbolText(api.EAN8, "96385074")
	upce := symbolText(api.UPCE, "04252614")
	ean13 := symbolText(api.EAN13, "5901234123457")
	for _, c := range []struct {
		name, row string
		want      api.Errno
	}{
		{"too long", zeros(api.MaxRow + 1), api.ErrLong},
		{"too long and dark", strings.Repeat("1", api.MaxRow+1), api.ErrLong},
		{"longest, light", zeros(api.MaxRow), api.ErrEmpty},
		{"longest, dark", strings.Repeat("1", api.MaxRow), api.ErrForm},
		{"longest", zeros(7) + strings.Repeat("1", api.MaxRow-14) + zeros(7), api.ErrLength},
		{"longest with a symbol", zeros(api.MaxRow-7-len(ean8)) + ean8 + zeros(7), api.OK},
		{"none", "", api.ErrEmpty},
		{"one light", "0", api.ErrEmpty},
		{"one dark", "1", api.ErrForm},
		{"one dark with quiet zones", framed("1"), api.ErrLength},
		{"no quiet zones", ean8, api.ErrForm},
		{"6 light modules on the left", zeros(6) + ean8 + zeros(100), api.ErrForm},
		{"6 light modules on the right", zeros(100) + ean8 + zeros(6), api.ErrForm},
		{"6 light modules on the left, no symbol", zeros(6) + "1" + zeros(7), api.ErrForm},
		{"7 light modules", framed(ean8), api.OK},
		{"94 modules", framed(ean13[:93] + "1"), api.ErrLength},
		{"96 modules", framed(ean13 + "1"), api.ErrLength},
		{"two symbols", framed(ean8 + zeros(9) + ean8), api.ErrLength},
		{"gap of 6", framed(ean13 + zeros(6) + addOnText("12")), api.ErrLength},
		{"gap of 13", framed(ean13 + zeros(13) + addOnText("12")), api.ErrLength},
		{"dark gap", framed(upce + "000010000" + addOnText("12")), api.ErrLength},
		{"dark end of the gap", framed(upce + "000000001" + addOnText("12")), api.ErrLength},
		{"dark begin of the gap", framed(upce + "100000000" + addOnText("12")), api.ErrLength},
		{"EAN-13: start", framed("111" + ean13[3:]), api.ErrStart},
		{"EAN-13: start and stop", framed("111" + ean13[3:92] + "111"), api.ErrStart},
		{"EAN-13: stop", framed(ean13[:92] + "111"), api.ErrStop},
		{"EAN-13: stop and middle", framed(ean13[:45] + "01110" + ean13[50:92] + "111"), api.ErrStop},
		{"EAN-13: middle", framed(ean13[:45] + "01110" + ean13[50:]), api.ErrPattern},
		{"EAN-13: middle, light", framed(ean13[:45] + "00000" + ean13[50:]), api.ErrPattern},
		{"EAN-13: no digit on the left", framed(ean13[:3] + "0000000" + ean13[10:]), api.ErrPattern},
		{"EAN-13: no digit on the right", framed(ean13[:50] + "0000000" + ean13[57:]), api.ErrPattern},
		{"EAN-13: C on the left", framed(ean13[:3] + digitIn(9, 2) + ean13[10:]), api.ErrPattern},
		{"EAN-13: A on the right", framed(ean13[:50] + digitIn(1, 0) + ean13[57:]), api.ErrPattern},
		{"EAN-13: B on the right", framed(ean13[:50] + digitIn(1, 1) + ean13[57:]), api.ErrPattern},
		{"EAN-13: sequence of sets", framed("101" + digitsBy("901234", 0x3f, "") + ean13[45:]), api.ErrPattern},
		{"EAN-13: from right to left", framed(backward(ean13)), api.ErrPattern},
		{"EAN-13: check digit", framed(ean13[:85] + digitIn(8, 2) + "101"), api.ErrCheck},
		{"EAN-8: start", framed("100" + ean8[3:]), api.ErrStart},
		{"EAN-8: stop", framed(ean8[:64] + "001"), api.ErrStop},
		{"EAN-8: middle", framed(ean8[:31] + "01011" + ean8[36:]), api.ErrPattern},
		{"EAN-8: B on the left", framed("101" + digitsBy("9638", 1, "") + ean8[31:]), api.ErrPattern},
		{"EAN-8: C on the left", framed("101" + rightHalf("9638") + ean8[31:]), api.ErrPattern},
		{"EAN-8: A on the right", framed(ean8[:36] + digitsBy("5074", 0, "") + "101"), api.ErrPattern},
		{"EAN-8: from right to left", framed(backward(ean8)), api.ErrPattern},
		{"EAN-8: check digit", framed(ean8[:57] + digitIn(3, 2) + "101"), api.ErrCheck},
		{"UPC-E: start", framed("110" + upce[3:]), api.ErrStart},
		{"UPC-E: stop", framed(upce[:45] + "011101"), api.ErrStop},
		{"UPC-E: stop as the other symbols", framed(upce[:45] + "000101"), api.ErrStop},
		{"UPC-E: from right to left", framed(backward(upce)), api.ErrStop},
		{"UPC-E: no digit", framed(upce[:38] + "0101010" + upce[45:]), api.ErrPattern},
		{"UPC-E: C", framed(upce[:38] + digitIn(1, 2) + upce[45:]), api.ErrPattern},
		{"UPC-E: sequence of sets", framed("101" + digitsBy("425261", 0, "") + "010101"), api.ErrPattern},
		{"UPC-E: check digit", framed("101" + digitsBy("425261", upceRows[0][5], "") + "010101"), api.ErrCheck},
		{"UPC-E: number system", framed("101" + digitsBy("425261", upceRows[1][4], "") + "010101"), api.ErrCheck},
		{"add-on: start", framed(upce + zeros(9) + "1111" + addOnText("12")[4:]), api.ErrStart},
		{"add-on: separator", framed(upce + zeros(9) + "1011" + digitsBy("12", 0, "11")), api.ErrPattern},
		{"add-on: no digit", framed(upce + zeros(9) + "1011" + digitIn(1, 0) + "01" + "1111111"), api.ErrPattern},
		{"add-on: C", framed(upce + zeros(9) + "1011" + digitIn(1, 2) + "01" + digitIn(2, 0)), api.ErrPattern},
		{"add-on: sequence of sets", framed(upce + zeros(9) + "1011" + digitsBy("12", 1, "01")), api.ErrCheck},
		{"add-on of five: sequence of sets", framed(upce + zeros(9) + "1011" + digitsBy("12345", 0, "01")), api.ErrCheck},
		{"add-on of five: last separator", framed(upce + zeros(9) + addOnText("52495")[:38] + "00" + digitIn(5, 0)), api.ErrPattern},
		{"symbol before add-on", framed(upce[:45] + "011101" + zeros(9) + "1111" + addOnText("12")[4:]), api.ErrStop},
	} {
		got, e := ean.Decode(rowOf(c.row))
		if e != c.want || e != api.OK && got != (api.Linear{}) {
			t.Errorf("%s: %v, %d, want %d", c.name, got, e, c.want)
		}
		checkDecode(t, c.row)
	}
}

// TestDecodeOverlap checks P11.2 for numbers of modules that two shapes have: the second one is tried if the first one cannot be read, but the error is that of the first one.
func TestDecodeOverlap(t *testing.T) {
	ean8 := symbolText(api.EAN8, "96385074")
	row := ean8 + zeros(8) + addOnText("12")
	if got, e := ean.Decode(rowOf(framed(row))); len(row) != 95 || e != api.OK || got != (api.Linear{Kind: api.EAN8, Text: "96385074", AddOn: "12"}) {
		t.Errorf("%d modules: %v, %d", len(row), got, e)
	}
	// As a symbol of 95 modules it does not end with 101; as one of 67 modules with an add-on it has a wrong check digit.
	row = ean8[:57] + digitIn(3, 2) + "101" + zeros(8) + addOnText("12")
	if got, e := ean.Decode(rowOf(framed(row))); e != api.ErrStop || got != (api.Linear{}) {
		t.Errorf("check digit: %v, %d", got, e)
	}
	// 67 modules with an add-on of five digits can be as many as 95 modules with an add-on of two.
	for gap := 7; gap <= 12; gap++ {
		row = ean8 + zeros(gap) + addOnText("52495")
		if got, e := ean.Decode(rowOf(framed(row))); e != api.OK || got.AddOn != "52495" {
			t.Errorf("gap of %d: %v, %d", gap, got, e)
		}
	}
	ean13 := symbolText(api.EAN13, "5901234123457")
	row = ean13 + zeros(7) + "1111" + addOnText("12")[4:]
	if got, e := ean.Decode(rowOf(framed(row))); e != api.ErrStart || got != (api.Linear{}) {
		t.Errorf("add-on: %v, %d", got, e)
	}
}

// TestDecodeChanged checks P11.2 for symbols in which one module or two neighbours are changed, or two others.
func TestDecodeChanged(t *testing.T) {
	r := newRand()
	for _, kind := range kinds {
		for range 40 {
			row := symbolRow(kind, randomText(r, kind), randomAddOn(r))
			for i := range row {
				checkDecode(t, flipped(row, i))
				checkDecode(t, flipped(row, i, (i+1)%len(row)))
				checkDecode(t, flipped(row, i, (i+1+r.IntN(len(row)-1))%len(row)))
			}
		}
	}
}

// randomSymbol returns modules whose guards and digits are nearly always right, but the sequence of sets and the check digit are random.
func randomSymbol(r *rand.Rand, size int) string {
	set := func(usual int) int {
		if r.IntN(20) == 0 {
			return r.IntN(3)
		}
		return usual
	}
	run := func(n int, usual func() int) string {
		s := ""
		for range n {
			s += digitIn(r.IntN(10), set(usual()))
		}
		return s
	}
	a, c := func() int { return 0 }, func() int { return 2 }
	switch size {
	case 95:
		row := ean13Rows[r.IntN(10)]
		return "101" + digitsBy(fmt.Sprintf("%06d", r.IntN(1000000)), row, "") + "01010" + run(6, c) + "101"
	case 67:
		return "101" + run(4, a) + "01010" + run(4, c) + "101"
	}
	if r.IntN(3) == 0 {
		return "101" + run(6, func() int { return r.IntN(2) }) + "010101"
	}
	return "101" + digitsBy(fmt.Sprintf("%06d", r.IntN(1000000)), upceRows[r.IntN(2)][r.IntN(10)], "") + "010101"
}

// TestDecodeRandom checks P11.2 for symbols and add-ons of random digits and sets, which give all errors.
func TestDecodeRandom(t *testing.T) {
	r := newRand()
	count := map[api.Errno]int{}
	for range 30000 {
		row := randomSymbol(r, []int{95, 67, 51}[r.IntN(3)])
		if r.IntN(2) == 0 {
			n := []int{2, 5}[r.IntN(2)]
			row += zeros(7+r.IntN(6)) + "1011" + digitsBy(fmt.Sprintf("%05d", r.IntN(100000))[:n], r.IntN(1<<n), "01")
		}
		if r.IntN(10) == 0 {
			row = flipped(row, r.IntN(len(row)))
		}
		count[checkDecode(t, zeros(6+r.IntN(30))+row+zeros(6+r.IntN(30)))]++
	}
	for _, e := range []api.Errno{api.OK, api.ErrForm, api.ErrLength, api.ErrStart, api.ErrStop, api.ErrPattern, api.ErrCheck} {
		if count[e] < 20 {
			t.Errorf("error %d only %d times", e, count[e])
		}
	}
}

// TestDecodeNoise checks P11.2 for random modules, with and without quiet zones and guards.
func TestDecodeNoise(t *testing.T) {
	r := newRand()
	for n := range 171 {
		for range 20 {
			row := make([]byte, n)
			for i := range row {
				row[i] = byte('0' + r.IntN(2))
			}
			checkDecode(t, framed(string(row)))
			checkDecode(t, framed("101"+string(row)+"101"))
			checkDecode(t, string(row))
		}
	}
}

// TestDecodeArgument checks that Decode does not change its row.
func TestDecodeArgument(t *testing.T) {
	row := encoded(t, api.EAN13, "5901234123457", "52495")
	before := slices.Clone(row)
	if _, e := ean.Decode(row); e != api.OK || !slices.Equal(row, before) {
		t.Errorf("Decode: %d, %s", e, textOf(row))
	}
}
