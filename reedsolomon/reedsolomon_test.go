package reedsolomon_test

import (
	"slices"
	"testing"

	"barscan/api"
	"barscan/reedsolomon"
)

// TestNew checks P7.1.
func TestNew(t *testing.T) {
	for _, want := range codes() {
		if c, e := reedsolomon.New(want.Field, want.Parity, want.First); c != want || e != api.OK {
			t.Errorf("New: %v, %d; want %v", c, e, want)
		}
	}
	for _, f := range fields() {
		for _, n := range append(outside(f.Size-1), 0) {
			if c, e := reedsolomon.New(f, n, 0); c != (api.Code{}) || e != api.ErrRange {
				t.Errorf("New(%v, %d, 0): %v, %d", f, n, c, e)
			}
		}
		for _, n := range outside(f.Size - 1) {
			if c, e := reedsolomon.New(f, 1, n); c != (api.Code{}) || e != api.ErrRange {
				t.Errorf("New(%v, 1, %d): %v, %d", f, n, c, e)
			}
		}
	}
	for _, f := range invalidFields() {
		for _, n := range []int{1, 2, 0, -1, f.Size} {
			if c, e := reedsolomon.New(f, n, n); c != (api.Code{}) || e != api.ErrArg {
				t.Errorf("New(%v, %d, %d): %v, %d", f, n, n, c, e)
			}
		}
	}
	if c, e := reedsolomon.New(binary(1, 3), 1, 0); c != (api.Code{}) || e != api.ErrRange {
		t.Errorf("New over two elements: %v, %d", c, e)
	}
}

// TestGenerator checks P7.1.
func TestGenerator(t *testing.T) {
	for _, c := range codes() {
		want := []int{1}
		for _, root := range rootsOf(c) {
			// This is x * want - root * want.
			longer := append([]int{0}, want...)
			for i, w := range want {
				longer[i] = difference(c.Field, longer[i], product(c.Field, root, w))
			}
			want = longer
		}
		got, e := reedsolomon.Generator(c)
		check(t, "Generator", c, got, e, want)
	}
	for _, known := range []struct {
		c    api.Code
		want []int
	}{
		{api.Code{Field: prime(7), Parity: 2}, []int{3, 3, 1}},
		{api.Code{Field: binary(8, 0x11d), Parity: 2}, []int{2, 3, 1}},
		{api.Code{Field: prime(929), Parity: 2, First: 1}, []int{27, 917, 1}},
		{api.Code{Field: prime(929), Parity: 4, First: 1}, []int{522, 568, 723, 809, 1}},
		{api.Code{Field: binary(8, 0x12d), Parity: 5, First: 1}, []int{228, 48, 15, 111, 62, 1}},
	} {
		got, e := reedsolomon.Generator(known.c)
		check(t, "Generator", known.c, got, e, known.want)
	}
}

// TestInvalidCodes checks P7.1: ErrArg comes before all other errors.
func TestInvalidCodes(t *testing.T) {
	for _, c := range invalidCodes() {
		got, e := reedsolomon.Generator(c)
		checkError(t, "Generator", c, got, e, api.ErrArg)
		for _, word := range [][]int{{0, 0, 0}, {1}, nil, {-1, 1, 1}, make([]int, 5000)} {
			got, e = reedsolomon.Encode(c, word)
			checkError(t, "Encode", c, got, e, api.ErrArg)
			got, e = reedsolomon.Syndromes(c, word)
			checkError(t, "Syndromes", c, got, e, api.ErrArg)
			checkDecodeError(t, c, word, nil, api.ErrArg)
		}
	}
}

// TestInvalidSymbols checks P7.1: ErrArg also comes for a word of a wrong length.
func TestInvalidSymbols(t *testing.T) {
	for _, f := range fields() {
		c := api.Code{Field: f, Parity: 1}
		for _, x := range outside(f.Size) {
			for _, word := range [][]int{{x, 1}, {1, x}, {x}, append(make([]int, f.Size), x)} {
				got, e := reedsolomon.Encode(c, word)
				checkError(t, "Encode", c, got, e, api.ErrArg)
				got, e = reedsolomon.Syndromes(c, word)
				checkError(t, "Syndromes", c, got, e, api.ErrArg)
				checkDecodeError(t, c, word, nil, api.ErrArg)
			}
		}
	}
}

// TestEncode checks P7.2.
func TestEncode(t *testing.T) {
	r := newRand()
	for _, c := range codes() {
		roots := rootsOf(c)
		for range 3 {
			data := random(r, c.Field, shortLength(r, c)-c.Parity)
			word := encode(t, c, data)
			if len(word) != len(data)+c.Parity || !slices.Equal(word[:len(data)], data) || !isCodeword(c.Field, roots, word) {
				t.Errorf("Encode with %v: %v, for the data %v", c, word, data)
			}
		}
		check(t, "Encode", c, encode(t, c, []int{0}), api.OK, make([]int, c.Parity+1))
		longest := random(r, c.Field, c.Field.Size-1-c.Parity)
		if word := encode(t, c, longest); len(word) != c.Field.Size-1 || !isCodeword(c.Field, roots[:1], word) {
			t.Errorf("Encode with %v: %v, for the data %v", c, word, longest)
		}
		for _, n := range []int{0, len(longest) + 1, len(longest) + 2, c.Field.Size, 5000} {
			got, e := reedsolomon.Encode(c, make([]int, n))
			checkError(t, "Encode", c, got, e, api.ErrLength)
		}
		got, e := reedsolomon.Encode(c, nil)
		checkError(t, "Encode", c, got, e, api.ErrLength)
	}
}

// TestKnownCodewords checks P7.2 with codewords that are published.
func TestKnownCodewords(t *testing.T) {
	for _, known := range []struct {
		c            api.Code
		data, checks []int
	}{
		{api.Code{Field: prime(7), Parity: 2}, []int{1}, []int{3, 3}},
		{
			api.Code{Field: binary(8, 0x11d), Parity: 10},
			[]int{32, 91, 11, 120, 209, 114, 220, 77, 67, 64, 236, 17, 236, 17, 236, 17},
			[]int{196, 35, 39, 119, 235, 215, 231, 226, 93, 23},
		},
		{api.Code{Field: binary(8, 0x12d), Parity: 5, First: 1}, []int{142, 164, 186}, []int{114, 25, 5, 88, 102}},
	} {
		got, e := reedsolomon.Encode(known.c, known.data)
		check(t, "Encode", known.c, got, e, append(slices.Clone(known.data), known.checks...))
	}
}

// TestSyndromes checks P7.3.
func TestSyndromes(t *testing.T) {
	r := newRand()
	for _, c := range codes() {
		roots := rootsOf(c)
		for range 3 {
			word := random(r, c.Field, shortLength(r, c))
			want := make([]int, c.Parity)
			for i, root := range roots {
				want[i] = valueOf(c.Field, word, root)
			}
			got, e := reedsolomon.Syndromes(c, word)
			check(t, "Syndromes", c, got, e, want)
		}
		for _, n := range []int{c.Parity + 1, c.Field.Size - 1} {
			got, e := reedsolomon.Syndromes(c, make([]int, n))
			check(t, "Syndromes", c, got, e, make([]int, c.Parity))
		}
		for _, n := range []int{0, c.Parity, c.Field.Size, c.Field.Size + 1, 5000} {
			got, e := reedsolomon.Syndromes(c, make([]int, n))
			checkError(t, "Syndromes", c, got, e, api.ErrLength)
		}
	}
}
