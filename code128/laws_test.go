package code128_test

import (
	"slices"
	"testing"

	"barscan/api"
	"barscan/code128"
)

// TestRoundTrip checks P13.7 and P2: what is encoded is decoded, also with more light modules on both sides.
func TestRoundTrip(t *testing.T) {
	r := newRand()
	for n := 1; n < 200; n++ {
		for range 5 {
			chars := randomChars(r, n)
			if got, e := code128.Chars(valuesOf(t, chars)); !slices.Equal(got, chars) || e != api.OK {
				t.Fatalf("Chars(Values(%v)) = %v, %d", chars, got, e)
			}
			row, e := code128.Encode(chars)
			if e != api.OK {
				t.Fatalf("Encode(%v): %d", chars, e)
			}
			wider := slices.Concat(make([]bool, r.IntN(50)), row, make([]bool, r.IntN(50)))
			for _, row := range [][]bool{row, wider} {
				before := slices.Clone(row)
				if got, e := code128.Decode(row); !slices.Equal(got, chars) || e != api.OK {
					t.Fatalf("Decode(Encode(%v)) = %v, %d", chars, got, e)
				}
				if !slices.Equal(row, before) {
					t.Fatalf("Decode changed its row")
				}
			}
		}
	}
}

// TestRoundTripAll checks P13.7 for all pairs of characters, and for the longest texts.
func TestRoundTripAll(t *testing.T) {
	var all []int
	for c := range 128 {
		all = append(all, c)
	}
	all = append(all, 256, 257, 258, 259)
	for _, a := range all {
		for _, b := range all {
			chars := []int{a, b}
			if got, e := code128.Chars(valuesOf(t, chars)); !slices.Equal(got, chars) || e != api.OK {
				t.Fatalf("Chars(Values(%v)) = %v, %d", chars, got, e)
			}
		}
	}
	r := newRand()
	for range 5 {
		chars := randomChars(r, api.MaxText)
		if got, e := code128.Chars(valuesOf(t, chars)); !slices.Equal(got, chars) || e != api.OK {
			t.Fatalf("Chars(Values(c)) of %d characters: %d characters, %d", len(chars), len(got), e)
		}
		row, e := code128.Encode(chars)
		if e != api.OK {
			t.Fatalf("Encode of %d characters: %d", len(chars), e)
		}
		if got, e := code128.Decode(row); !slices.Equal(got, chars) || e != api.OK {
			t.Fatalf("Decode(Encode(c)) of %d characters: %d characters, %d", len(chars), len(got), e)
		}
	}
}

// TestMinimal checks P13.8 and P5: no sequence that Chars accepts is shorter than the one of Values for the same characters, nor as short and less.
func TestMinimal(t *testing.T) {
	r := newRand()
	for range 20000 {
		other := randomSequence(r, 1+r.IntN(8))
		chars, e := code128.Chars(other)
		if e != api.OK {
			t.Fatalf("Chars(%v): %d", other, e)
		}
		if len(chars) == 0 {
			continue
		}
		if values := valuesOf(t, chars); !slices.Equal(better(values, other), values) {
			t.Fatalf("Values(%v) = %v, but %v is better", chars, values, other)
		}
	}
}

// TestDetection checks P13.9: a sequence with another check value, or with another value at an index that is 0 or not a multiple of 103, is not accepted.
func TestDetection(t *testing.T) {
	r := newRand()
	for _, n := range []int{0, 1, 2, 3, 5, 8, 13, 30, 101, 102, 103, 104, 210} {
		values := randomSequence(r, n)
		for i := range len(values) - 1 {
			if i > 0 && i%103 == 0 && i != len(values)-2 {
				continue
			}
			for v := range 106 {
				if v == values[i] {
					continue
				}
				changed := slices.Clone(values)
				changed[i] = v
				if got, e := code128.Chars(changed); e == api.OK || got != nil {
					t.Fatalf("Chars(%v) = %v, %d, with the value %d at %d", changed, got, e, v, i)
				}
			}
		}
	}
}
