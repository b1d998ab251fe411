package twowidth_test

import (
	"math/rand/v2"
	"strings"
	"testing"

	"barscan/api"
	"barscan/twowidth"
)

// TestRoundTrip checks P12.5 and P2: what is encoded is decoded, also if all widths are multiplied by the same number.
func TestRoundTrip(t *testing.T) {
	r := rand.New(rand.NewPCG(12, 16))
	for _, s := range randomSymbols(t, 70) {
		greatest := api.MaxRow / s.o.Ratio
		for _, k := range []int{1, 2, 3, 7, 1 + r.IntN(greatest), greatest} {
			if got, e := twowidth.Decode(s.kind, scaled(s.widths, k), s.o.Check); got != s.text || e != api.OK {
				t.Fatalf("Decode of %q times %d = %q, %d", s.text, k, got, e)
			}
		}
	}
}

// TestTolerance checks P12.6: widths in pixels are increased by 0, 1 or 2 of ten.
func TestTolerance(t *testing.T) {
	r := rand.New(rand.NewPCG(12, 17))
	for _, s := range randomSymbols(t, 70) {
		for range 5 {
			widths := scaled(s.widths, 10)
			for i := range widths {
				widths[i] += r.IntN(3)
			}
			if got, e := twowidth.Decode(s.kind, widths, s.o.Check); got != s.text || e != api.OK {
				t.Fatalf("Decode of %q with the widths %v = %q, %d", s.text, widths, got, e)
			}
		}
		// The greatest narrow width is nearest to the least wide one.
		widths := scaled(s.widths, 10)
		for i := range widths {
			if s.widths[i] == 1 {
				widths[i] += 2
			}
		}
		if got, e := twowidth.Decode(s.kind, widths, s.o.Check); got != s.text || e != api.OK {
			t.Fatalf("Decode of %q with the widths %v = %q, %d", s.text, widths, got, e)
		}
	}
}

// TestSelfChecking checks P12.7: a symbol with one changed element is not decoded, with or without a check character.
func TestSelfChecking(t *testing.T) {
	for _, s := range randomSymbols(t, 25) {
		for i := range s.widths {
			widths := scaled(s.widths, 1)
			widths[i] = 1 + s.o.Ratio - widths[i]
			for _, check := range []bool{false, true} {
				if got, e := twowidth.Decode(s.kind, widths, check); e == api.OK || got != "" {
					t.Fatalf("Decode of %q with a changed element %d = %q, %d", s.text, i, got, e)
				}
			}
		}
	}
}

// TestSelfCheckingCharacters checks P12.7 for all characters.
func TestSelfCheckingCharacters(t *testing.T) {
	for _, c := range []struct {
		kind                 api.SymOp
		before, texts, after string
	}{
		{api.Code39, "", code39Text, ""},
		{api.Codabar, "A", codabarText, "D"},
		{api.Codabar, "", codabarEnds, "1C"},
		{api.Codabar, "B1", codabarEnds, ""},
		{api.ITF, "0", itfText, ""},
		{api.ITF, "", itfText, "0"},
	} {
		for _, char := range c.texts {
			widths := encoded(t, c.kind, c.before+string(char)+c.after, ratio(2))
			for i := range widths {
				changed := scaled(widths, 1)
				changed[i] = 3 - changed[i]
				if got, e := twowidth.Decode(c.kind, changed, false); e == api.OK || got != "" {
					t.Fatalf("Decode of %q with a changed element %d = %q, %d", char, i, got, e)
				}
			}
		}
	}
}

// TestFullInSymbol checks P12.5 and P12.8 together: ASCII characters go through a symbol of Code 39.
func TestFullInSymbol(t *testing.T) {
	ascii := strings.Repeat("Code 39: {ok}!\n\x00\x7f", 20)
	text, e := twowidth.Full(ascii)
	if e != api.OK {
		t.Fatalf("Full: %d", e)
	}
	read, e := twowidth.Decode(api.Code39, encoded(t, api.Code39, text, checked(3)), true)
	if e != api.OK {
		t.Fatalf("Decode: %d", e)
	}
	if back, e := twowidth.Plain(read); back != ascii || e != api.OK {
		t.Errorf("Plain = %q, %d", back, e)
	}
}
