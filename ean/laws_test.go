package ean_test

import (
	"slices"
	"testing"

	"barscan/api"
	"barscan/ean"
)

// TestRoundTrip checks P11.4 and P2: what is encoded is decoded, also with more light modules on both sides.
func TestRoundTrip(t *testing.T) {
	r := newRand()
	for _, kind := range kinds {
		for range 1000 {
			text, addOn := randomText(r, kind), randomAddOn(r)
			want := api.Linear{Kind: kind, Text: text, AddOn: addOn}
			if kind == api.EAN13 && text[0] == '0' {
				want.Kind, want.Text = api.UPCA, text[1:]
			}
			row := encoded(t, kind, text, addOn)
			wider := slices.Concat(make([]bool, r.IntN(200)), row, make([]bool, r.IntN(200)))
			for _, row := range [][]bool{row, wider} {
				if got, e := ean.Decode(row); e != api.OK || got != want {
					t.Fatalf("Decode(Encode(%d, %q, %q)) = %v, %d", kind, text, addOn, got, e)
				}
			}
		}
	}
}

// TestRoundTripWide checks P11.4 for as many light modules as a row can have.
func TestRoundTripWide(t *testing.T) {
	row := encoded(t, api.UPCE, "04252614", "52")
	n := api.MaxRow - len(row)
	for _, left := range []int{0, n / 2, n} {
		wider := slices.Concat(make([]bool, left), row, make([]bool, n-left))
		if got, e := ean.Decode(wider); e != api.OK || got.Text != "04252614" || got.AddOn != "52" {
			t.Errorf("%d light modules on the left: %v, %d", left, got, e)
		}
	}
}

// TestDetection checks P11.6: a text with one wrong digit is not encoded.
func TestDetection(t *testing.T) {
	r := newRand()
	for _, kind := range []api.SymOp{api.EAN13, api.EAN8, api.UPCA} {
		for range 100 {
			text := randomText(r, kind)
			for i := range text {
				for digit := byte('0'); digit <= '9'; digit++ {
					changed := []byte(text)
					changed[i] = digit
					if digit == text[i] {
						continue
					}
					if row, e := ean.Encode(kind, string(changed), ""); e != api.ErrCheck || row != nil {
						t.Fatalf("Encode(%d, %q) = %v, %d", kind, changed, row, e)
					}
				}
			}
		}
	}
}

// TestDecodedIsEncoded checks P11.6: what is decoded without an add-on has just the modules that were read.
func TestDecodedIsEncoded(t *testing.T) {
	r := newRand()
	found := 0
	for _, size := range []int{95, 67, 51} {
		for range 10000 {
			modules := randomSymbol(r, size)
			got, e := ean.Decode(rowOf(framed(modules)))
			if e != api.OK {
				continue
			}
			found++
			row := encoded(t, got.Kind, got.Text, got.AddOn)
			first, last := slices.Index(row, true), len(row)-1
			for !row[last] {
				last--
			}
			if textOf(row[first:last+1]) != modules {
				t.Fatalf("%v is encoded as %s, want %s", got, textOf(row), modules)
			}
		}
	}
	if found < 1000 {
		t.Errorf("only %d symbols were decoded", found)
	}
}
