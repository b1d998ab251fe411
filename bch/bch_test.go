package bch_test

import (
	"math"
	"testing"

	"barscan/api"
	"barscan/bch"
)

// TestEncode checks P8.1.
func TestEncode(t *testing.T) {
	for _, c := range append(smallCodes(), largeCodes()...) {
		for v, want := range c.codewords() {
			if got := c.encode(t, v); got != want {
				t.Fatalf("Encode(%d, %d, %#x): %#x, want %#x", v, c.k, c.gen, got, want)
			}
		}
		for _, v := range outside(1 << c.k) {
			if got, e := bch.Encode(v, c.k, c.gen); got != 0 || e != api.ErrRange {
				t.Errorf("Encode(%d, %d, %#x): %d, %d", v, c.k, c.gen, got, e)
			}
		}
	}
	if got, e := bch.Encode(5, 5, 0x537); got != 0x14dc || e != api.OK {
		t.Errorf("the first example: %#x, %d", got, e)
	}
}

// TestDistance checks P8.1.
func TestDistance(t *testing.T) {
	for _, c := range append(smallCodes(), largeCodes()...) {
		want := leastDistance(c.codewords())
		if got, e := bch.Distance(c.k, c.gen); got != want || e != api.OK {
			t.Errorf("Distance(%d, %#x): %d, %d; want %d", c.k, c.gen, got, e, want)
		}
	}
	for _, known := range []struct {
		code
		distance int
	}{{code{1, 7}, 3}, {code{5, 0x537}, 7}, {code{6, 0x1f25}, 8}, {code{12, 0xae3}, 7}, {code{11, 0x1f25}, 8}, {code{4, 11}, 3}, {code{12, 3}, 2}, {code{1, 1<<19 - 1}, 19}} {
		if got, e := bch.Distance(known.k, known.gen); got != known.distance || e != api.OK {
			t.Errorf("Distance(%d, %#x): %d, %d; want %d", known.k, known.gen, got, e, known.distance)
		}
	}
}

// checkDecode compares Decode with a search in all codewords of a code with a minimum distance.
func checkDecode(t *testing.T, c code, list []int, least, word int) {
	t.Helper()
	var wantV, wantDistance int
	want := api.ErrErrors
	for v, codeword := range list {
		if n := distance(word, codeword); n <= (least-1)/2 {
			wantV, wantDistance, want = v, n, api.OK
		}
	}
	if v, n, e := bch.Decode(word, c.k, c.gen); v != wantV || n != wantDistance || e != want {
		t.Fatalf("Decode(%#x, %d, %#x): %d, %d, %d; want %d, %d, %d", word, c.k, c.gen, v, n, e, wantV, wantDistance, want)
	}
}

// TestDecodeAll checks P8.1 for all words of small codes.
func TestDecodeAll(t *testing.T) {
	for _, c := range smallCodes() {
		list := c.codewords()
		least := leastDistance(list)
		for word := range 1 << c.length() {
			checkDecode(t, c, list, least, word)
		}
	}
}

// TestDecode checks P8.1.
func TestDecode(t *testing.T) {
	r := newRand()
	for _, c := range largeCodes() {
		list := c.codewords()
		least := leastDistance(list)
		for range 30 {
			checkDecode(t, c, list, least, r.IntN(1<<c.length()))
			near := flipped(r, list[r.IntN(len(list))], c.length(), min(c.length(), r.IntN(least+1)))
			checkDecode(t, c, list, least, near)
		}
		checkDecode(t, c, list, least, 0)
		checkDecode(t, c, list, least, 1<<c.length()-1)
		for _, word := range outside(1 << c.length()) {
			if v, n, e := bch.Decode(word, c.k, c.gen); v != 0 || n != 0 || e != api.ErrRange {
				t.Errorf("Decode(%d, %d, %#x): %d, %d, %d", word, c.k, c.gen, v, n, e)
			}
		}
	}
	if v, n, e := bch.Decode(6, 1, 7); v != 1 || n != 1 || e != api.OK {
		t.Errorf("the third example: %d, %d, %d", v, n, e)
	}
}

// TestInvalidCodes checks P8.1: ErrArg comes before all other errors.
func TestInvalidCodes(t *testing.T) {
	for _, c := range invalidCodes() {
		for _, x := range []int{0, 1, 5, -1, 1 << 20, 1 << 40, math.MaxInt, math.MinInt} {
			if got, e := bch.Encode(x, c.k, c.gen); got != 0 || e != api.ErrArg {
				t.Errorf("Encode(%d, %d, %d): %d, %d", x, c.k, c.gen, got, e)
			}
			if v, n, e := bch.Decode(x, c.k, c.gen); v != 0 || n != 0 || e != api.ErrArg {
				t.Errorf("Decode(%d, %d, %d): %d, %d, %d", x, c.k, c.gen, v, n, e)
			}
		}
		if got, e := bch.Distance(c.k, c.gen); got != 0 || e != api.ErrArg {
			t.Errorf("Distance(%d, %d): %d, %d", c.k, c.gen, got, e)
		}
	}
}
