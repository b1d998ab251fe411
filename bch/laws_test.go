package bch_test

import (
	"testing"

	"barscan/api"
	"barscan/bch"
)

// TestLinearity checks P8.3.
func TestLinearity(t *testing.T) {
	r := newRand()
	for _, c := range append(smallCodes(), largeCodes()...) {
		for range 100 {
			a, b := r.IntN(1<<c.k), r.IntN(1<<c.k)
			if c.encode(t, a^b) != c.encode(t, a)^c.encode(t, b) {
				t.Errorf("the codewords of %d and %d with %d bits and %#x", a, b, c.k, c.gen)
			}
			if word := c.encode(t, a); word>>c.degree() != a {
				t.Errorf("the codeword of %d with %d bits and %#x: %#x", a, c.k, c.gen, word)
			}
		}
	}
}

// TestCorrection checks P8.4.
func TestCorrection(t *testing.T) {
	r := newRand()
	for _, c := range append(smallCodes(), largeCodes()...) {
		for changed := range c.capacity(t) + 1 {
			for range 5 {
				data := r.IntN(1 << c.k)
				word := flipped(r, c.encode(t, data), c.length(), changed)
				if v, n, e := bch.Decode(word, c.k, c.gen); v != data || n != changed || e != api.OK {
					t.Errorf("Decode(%#x, %d, %#x): %d, %d, %d; want %d, %d", word, c.k, c.gen, v, n, e, data, changed)
				}
			}
		}
	}
}

// TestInformationCorrection checks P8.4 for the information of QR codes.
func TestInformationCorrection(t *testing.T) {
	r := newRand()
	for range 2000 {
		changed := r.IntN(4)
		level, mask, number := api.Level(1+r.IntN(4)), r.IntN(8), 7+r.IntN(34)
		format, e := bch.Format(level, mask)
		if e != api.OK {
			t.Fatal(e)
		}
		if l, m, n, e := bch.ParseFormat(flipped(r, format, 15, changed)); l != level || m != mask || n != changed || e != api.OK {
			t.Errorf("ParseFormat of level %d and mask %d with %d bits changed: %d, %d, %d, %d", level, mask, changed, l, m, n, e)
		}
		version, e := bch.Version(number)
		if e != api.OK {
			t.Fatal(e)
		}
		if v, n, e := bch.ParseVersion(flipped(r, version, 18, changed)); v != number || n != changed || e != api.OK {
			t.Errorf("ParseVersion of %d with %d bits changed: %d, %d, %d", number, changed, v, n, e)
		}
	}
}

// TestDetection checks P8.5.
func TestDetection(t *testing.T) {
	r := newRand()
	for _, c := range append(smallCodes(), largeCodes()...) {
		capacity := c.capacity(t)
		for range 50 {
			word := r.IntN(1 << c.length())
			v, n, e := bch.Decode(word, c.k, c.gen)
			if e == api.OK && (n > capacity || distance(word, c.encode(t, v)) != n) {
				t.Errorf("Decode(%#x, %d, %#x): %d, %d", word, c.k, c.gen, v, n)
			}
		}
	}
}
