package gs1_test

import (
	"slices"
	"testing"

	"barscan/api"
	"barscan/code128"
	"barscan/gs1"
)

// TestRoundTrip checks P14.4 and P2 for elements: Parse restores what Format returned, and FromChars what Chars returned, also through a symbol.
func TestRoundTrip(t *testing.T) {
	r := newRand()
	for n := 1; n < 30; n++ {
		for range 20 {
			l := randomElements(r, n)
			if got, e := gs1.Parse(formatted(t, l)); !slices.Equal(got, l) || e != api.OK {
				t.Fatalf("Parse(Format(%v)) = %v, %d", l, got, e)
			}
			chars, e := gs1.Chars(l)
			if e != api.OK {
				t.Fatalf("Chars(%v): %d", l, e)
			}
			if got, e := gs1.FromChars(chars); !slices.Equal(got, l) || e != api.OK {
				t.Fatalf("FromChars(Chars(%v)) = %v, %d", l, got, e)
			}
			row, e := code128.Encode(chars)
			if e != api.OK {
				t.Fatalf("Encode(Chars(%v)): %d", l, e)
			}
			if got, e := code128.Decode(row); !slices.Equal(got, chars) || e != api.OK {
				t.Fatalf("Decode(Encode(Chars(%v))) = %v, %d", l, got, e)
			}
		}
	}
}

// TestRoundTripBack checks P14.4 for texts and characters: Format and Chars restore what Parse and FromChars accepted.
func TestRoundTripBack(t *testing.T) {
	r := newRand()
	accepted := 0
	for range 20000 {
		l := randomElements(r, 1+r.IntN(4))
		text, chars := textForm(l), charsOf(charForm(l))
		if r.IntN(2) == 0 {
			text = text[:r.IntN(len(text)+1)] + randomFrom(r, "A(20)07", r.IntN(3))
			chars = append(chars[:r.IntN(len(chars)+1)], charsOf(randomFrom(r, "A^2007", r.IntN(3)))...)
		}
		if l, e := gs1.Parse(text); e == api.OK {
			accepted++
			if got := formatted(t, l); got != text {
				t.Fatalf("Format(Parse(%q)) = %q", text, got)
			}
		}
		if l, e := gs1.FromChars(chars); e == api.OK {
			accepted++
			if got, e := gs1.Chars(l); !slices.Equal(got, chars) || e != api.OK {
				t.Fatalf("Chars(FromChars(%v)) = %v, %d", chars, got, e)
			}
		}
	}
	if accepted < 20000 {
		t.Errorf("only %d were accepted", accepted)
	}
}

// TestSeparators checks P14.5: FNC1 stands at the beginning, and after data of a variable length before the last element.
func TestSeparators(t *testing.T) {
	r := newRand()
	for n := 1; n < 30; n++ {
		for range 20 {
			l := randomElements(r, n)
			want := 1
			for _, x := range l[:n-1] {
				if length, _, _ := gs1.Fixed(x.AI); length == 0 {
					want++
				}
			}
			chars, e := gs1.Chars(l)
			got := 0
			for _, c := range chars {
				if c == api.FNC1 {
					got++
				}
			}
			if got != want || e != api.OK {
				t.Fatalf("Chars(%v) has %d FNC1, %d, want %d", l, got, e, want)
			}
		}
	}
}
