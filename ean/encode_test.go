package ean_test

import (
	"fmt"
	"slices"
	"strings"
	"testing"

	"barscan/api"
	"barscan/ean"
)

// TestDigits checks P11.1 for all digits and sets, and the table as the chapter writes it.
func TestDigits(t *testing.T) {
	for set := range 3 {
		for digit := range 10 {
			got, e := ean.Digits(digit, set)
			if e != api.OK || textOf(got) != digitIn(digit, set) {
				t.Errorf("Digits(%d, %d) = %s, %d, want %s", digit, set, textOf(got), e, digitIn(digit, set))
			}
		}
	}
	for _, c := range []struct {
		digit, set int
		want       string
	}{{0, 0, "0001101"}, {0, 1, "0100111"}, {0, 2, "1110010"}, {3, 1, "0100001"}, {6, 1, "0000101"}, {7, 2, "1000100"}, {9, 0, "0001011"}, {9, 1, "0010111"}, {9, 2, "1110100"}} {
		if got, _ := ean.Digits(c.digit, c.set); textOf(got) != c.want {
			t.Errorf("Digits(%d, %d) = %s, want %s", c.digit, c.set, textOf(got), c.want)
		}
	}
}

// TestDigitsErrors checks P11.1 for numbers out of range.
func TestDigitsErrors(t *testing.T) {
	for _, c := range [][2]int{{-1, 0}, {10, 0}, {0, -1}, {0, 3}, {10, 3}, {-1, -1}, {1 << 32, 0}, {0, 1 << 32}} {
		if got, e := ean.Digits(c[0], c[1]); e != api.ErrRange || got != nil {
			t.Errorf("Digits(%d, %d) = %v, %d", c[0], c[1], got, e)
		}
	}
}

// TestDigitsNew checks that a result is new memory.
func TestDigitsNew(t *testing.T) {
	row, _ := ean.Digits(4, 1)
	want := textOf(row)
	clear(row)
	if row, _ = ean.Digits(4, 1); textOf(row) != want {
		t.Errorf("Digits(4, 1) = %s after a change of the result before, want %s", textOf(row), want)
	}
}

// TestEncodeExamples checks P11.1 for the example of the chapter and for rows written out.
func TestEncodeExamples(t *testing.T) {
	row := encoded(t, api.EAN13, "5901234123457", "")
	if len(row) != 113 || !strings.HasPrefix(textOf(row), zeros(11)+"101"+"0001011") {
		t.Errorf("5901234123457: %d modules, %s", len(row), textOf(row))
	}
	for _, c := range []struct {
		kind        api.SymOp
		text, addOn string
		want        string
	}{
		{api.EAN13, "5901234123457", "", "00000000000 101 0001011 0100111 0110011 0010011 0111101 0011101 01010 1100110 1101100 1000010 1011100 1001110 1000100 101 0000000"},
		{api.EAN8, "96385074", "", "0000000 101 0001011 0101111 0111101 0110111 01010 1001110 1110010 1000100 1011100 101 0000000"},
		{api.UPCA, "036000291452", "", "000000000 101 0001101 0111101 0101111 0001101 0001101 0001101 01010 1101100 1110100 1100110 1011100 1001110 1101100 101 000000000"},
		{api.UPCE, "04252614", "", "000000000 101 0011101 0010011 0111001 0011011 0101111 0011001 010101 0000000"},
		{api.UPCE, "14252611", "", "000000000 101 0100011 0010011 0111001 0010011 0000101 0110011 010101 0000000"},
		{api.EAN8, "96385074", "53", "0000000 101 0001011 0101111 0111101 0110111 01010 1001110 1110010 1000100 1011100 101 000000000 1011 0110001 01 0100001 0000000"},
		{api.EAN8, "96385074", "52495", "0000000 101 0001011 0101111 0111101 0110111 01010 1001110 1110010 1000100 1011100 101 000000000 1011 0111001 01 0010011 01 0011101 01 0001011 01 0110001 0000000"},
	} {
		got := textOf(encoded(t, c.kind, c.text, c.addOn))
		if want := strings.ReplaceAll(c.want, " ", ""); got != want {
			t.Errorf("Encode(%d, %q, %q) =\n%s, want\n%s", c.kind, c.text, c.addOn, got, want)
		}
	}
}

// TestEncodeTexts checks P11.1 for many texts and add-ons of all kinds.
func TestEncodeTexts(t *testing.T) {
	r := newRand()
	for _, kind := range kinds {
		for range 2000 {
			text, addOn := randomText(r, kind), randomAddOn(r)
			got, want := textOf(encoded(t, kind, text, addOn)), symbolRow(kind, text, addOn)
			if got != want {
				t.Fatalf("Encode(%d, %q, %q) =\n%s, want\n%s", kind, text, addOn, got, want)
			}
		}
	}
}

// TestEncodeSets checks P11.1 for all sequences of sets: all first digits, check digits, number systems, and add-ons.
func TestEncodeSets(t *testing.T) {
	for n := range 100 {
		text := fmt.Sprintf("%d%011d", n/10, n%10*12345)
		text += checkOf(api.EAN13, text)
		if got := textOf(encoded(t, api.EAN13, text, "")); got != symbolRow(api.EAN13, text, "") {
			t.Errorf("%s: %s", text, got)
		}
		addOn := fmt.Sprintf("%02d", n)
		if got := textOf(encoded(t, api.EAN13, text, addOn)); got != symbolRow(api.EAN13, text, addOn) {
			t.Errorf("%s %s: %s", text, addOn, got)
		}
	}
	for n := range 10000 {
		text := fmt.Sprintf("%d%06d", n%2, n*89)
		text += checkOf(api.UPCE, text)
		addOn := fmt.Sprintf("%05d", n*7)
		if got := textOf(encoded(t, api.UPCE, text, addOn)); got != symbolRow(api.UPCE, text, addOn) {
			t.Fatalf("%s %s: %s", text, addOn, got)
		}
	}
}

// TestEncodeErrors checks P11.1 for invalid arguments, and the order of the errors.
func TestEncodeErrors(t *testing.T) {
	for _, kind := range notKinds {
		if row, e := ean.Encode(kind, "x", "x"); e != api.ErrArg || row != nil {
			t.Errorf("Encode with the kind %d: %d", kind, e)
		}
	}
	for _, c := range []struct {
		kind        api.SymOp
		text, addOn string
		want        api.Errno
	}{
		{api.EAN13, "x", "x", api.ErrChar},
		{api.EAN13, "590123412345x", "", api.ErrChar},
		{api.EAN13, "5901234123457 ", "", api.ErrChar},
		{api.EAN8, "9638507/", "", api.ErrChar},
		{api.EAN8, "9638507:", "", api.ErrChar},
		{api.EAN8, "-9638507", "", api.ErrChar},
		{api.EAN8, "9638507\xb4", "", api.ErrChar},
		{api.UPCE, "2x", "", api.ErrChar},
		{api.EAN13, "", "", api.ErrLength},
		{api.EAN13, "", "x", api.ErrLength},
		{api.EAN13, "590123412345", "", api.ErrLength},
		{api.EAN13, "59012341234577", "", api.ErrLength},
		{api.EAN8, "9638507", "", api.ErrLength},
		{api.EAN8, "5901234123457", "", api.ErrLength},
		{api.UPCA, "5901234123457", "", api.ErrLength},
		{api.UPCA, "96385074", "", api.ErrLength},
		{api.UPCE, "2425261", "", api.ErrLength},
		{api.UPCE, "042100005264", "", api.ErrLength},
		{api.EAN8, strings.Repeat("0", 5000), "", api.ErrLength},
		{api.UPCE, "24252614", "", api.ErrForm},
		{api.UPCE, "24252615", "x", api.ErrForm},
		{api.UPCE, "94252614", "", api.ErrForm},
		{api.UPCE, "04252615", "", api.ErrCheck},
		{api.UPCE, "14252614", "", api.ErrCheck},
		{api.UPCE, "04252615", "x", api.ErrCheck},
		{api.EAN13, "5901234123458", "", api.ErrCheck},
		{api.EAN8, "96385075", "123", api.ErrCheck},
		{api.UPCA, "036000291453", "", api.ErrCheck},
		{api.EAN8, "96385074", "x", api.ErrChar},
		{api.EAN8, "96385074", "1x", api.ErrChar},
		{api.EAN8, "96385074", "1234x", api.ErrChar},
		{api.EAN8, "96385074", "123456x", api.ErrChar},
		{api.EAN8, "96385074", "1", api.ErrLength},
		{api.EAN8, "96385074", "123", api.ErrLength},
		{api.EAN8, "96385074", "1234", api.ErrLength},
		{api.EAN8, "96385074", "123456", api.ErrLength},
	} {
		if row, e := ean.Encode(c.kind, c.text, c.addOn); e != c.want || row != nil {
			t.Errorf("Encode(%d, %q, %q) = %v, %d, want %d", c.kind, c.text, c.addOn, row, e, c.want)
		}
	}
}

// TestEncodeNew checks that a result is new memory.
func TestEncodeNew(t *testing.T) {
	row := encoded(t, api.UPCE, "04252614", "12")
	want := slices.Clone(row)
	clear(row)
	if again := encoded(t, api.UPCE, "04252614", "12"); !slices.Equal(again, want) {
		t.Errorf("Encode = %s after a change of the result before", textOf(again))
	}
}
