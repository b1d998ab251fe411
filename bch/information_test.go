package bch_test

import (
	"math"
	"testing"

	"barscan/api"
	"barscan/bch"
)

// publishedFormats returns the format information of ISO/IEC 18004, in the order of the masks.
func publishedFormats() map[api.Level][]int {
	return map[api.Level][]int{
		api.LevelL: {0x77c4, 0x72f3, 0x7daa, 0x789d, 0x662f, 0x6318, 0x6c41, 0x6976},
		api.LevelM: {0x5412, 0x5125, 0x5e7c, 0x5b4b, 0x45f9, 0x40ce, 0x4f97, 0x4aa0},
		api.LevelQ: {0x355f, 0x3068, 0x3f31, 0x3a06, 0x24b4, 0x2183, 0x2eda, 0x2bed},
		api.LevelH: {0x1689, 0x13be, 0x1ce7, 0x19d0, 0x0762, 0x0255, 0x0d0c, 0x083b},
	}
}

// publishedVersions returns the version information of ISO/IEC 18004, from version 7 on.
func publishedVersions() []int {
	return []int{
		0x07c94, 0x085bc, 0x09a99, 0x0a4d3, 0x0bbf6, 0x0c762, 0x0d847, 0x0e60d, 0x0f928,
		0x10b78, 0x1145d, 0x12a17, 0x13532, 0x149a6, 0x15683, 0x168c9, 0x177ec, 0x18ec4, 0x191e1, 0x1afab, 0x1b08e, 0x1cc1a, 0x1d33f, 0x1ed75, 0x1f250,
		0x209d5, 0x216f0, 0x228ba, 0x2379f, 0x24b0b, 0x2542e, 0x26a64, 0x27541, 0x28c69,
	}
}

// TestFormat checks P8.2.
func TestFormat(t *testing.T) {
	for level, list := range publishedFormats() {
		for mask, want := range list {
			if got, e := bch.Format(level, mask); got != want || e != api.OK {
				t.Errorf("Format(%d, %d): %#x, %d; want %#x", level, mask, got, e, want)
			}
		}
		for _, mask := range outside(8) {
			if got, e := bch.Format(level, mask); got != 0 || e != api.ErrRange {
				t.Errorf("Format(%d, %d): %#x, %d", level, mask, got, e)
			}
		}
	}
	for _, level := range []api.Level{0, 5, -1, math.MaxInt, math.MinInt} {
		for _, mask := range []int{0, 7, 8, -1} {
			if got, e := bch.Format(level, mask); got != 0 || e != api.ErrLevel {
				t.Errorf("Format(%d, %d): %#x, %d", level, mask, got, e)
			}
		}
	}
}

// TestParseFormat checks P8.2 for all words.
func TestParseFormat(t *testing.T) {
	published := publishedFormats()
	for word := range 1 << 15 {
		var wantLevel api.Level
		var wantMask, wantDistance int
		want := api.ErrFormat
		for level, list := range published {
			for mask, format := range list {
				if n := distance(word, format); n <= 3 {
					wantLevel, wantMask, wantDistance, want = level, mask, n, api.OK
				}
			}
		}
		if level, mask, n, e := bch.ParseFormat(word); level != wantLevel || mask != wantMask || n != wantDistance || e != want {
			t.Fatalf("ParseFormat(%#x): %d, %d, %d, %d; want %d, %d, %d, %d", word, level, mask, n, e, wantLevel, wantMask, wantDistance, want)
		}
	}
	for _, word := range outside(1 << 15) {
		if level, mask, n, e := bch.ParseFormat(word); level != 0 || mask != 0 || n != 0 || e != api.ErrRange {
			t.Errorf("ParseFormat(%d): %d, %d, %d, %d", word, level, mask, n, e)
		}
	}
}

// TestVersion checks P8.2.
func TestVersion(t *testing.T) {
	for i, want := range publishedVersions() {
		if got, e := bch.Version(i + 7); got != want || e != api.OK {
			t.Errorf("Version(%d): %#x, %d; want %#x", i+7, got, e, want)
		}
	}
	for _, n := range append(outside(41), 0, 1, 6) {
		if got, e := bch.Version(n); got != 0 || e != api.ErrVersion {
			t.Errorf("Version(%d): %#x, %d", n, got, e)
		}
	}
}

// TestParseVersion checks P8.2 for all words.
func TestParseVersion(t *testing.T) {
	list := code{6, 0x1f25}.codewords()
	for word := range 1 << 18 {
		wantN, wantDistance, want := 0, 0, api.ErrFormat
		for n, codeword := range list {
			d := distance(word, codeword)
			switch {
			case d > 3:
			case n < 7 || n > 40:
				want = api.ErrVersion
			default:
				wantN, wantDistance, want = n, d, api.OK
			}
		}
		if n, d, e := bch.ParseVersion(word); n != wantN || d != wantDistance || e != want {
			t.Fatalf("ParseVersion(%#x): %d, %d, %d; want %d, %d, %d", word, n, d, e, wantN, wantDistance, want)
		}
	}
	for _, word := range outside(1 << 18) {
		if n, d, e := bch.ParseVersion(word); n != 0 || d != 0 || e != api.ErrRange {
			t.Errorf("ParseVersion(%d): %d, %d, %d", word, n, d, e)
		}
	}
}
