package reedsolomon_test

import (
	"slices"
	"testing"

	"barscan/api"
	"barscan/reedsolomon"
)

// TestCorrects checks P7.6. Some of the erased symbols are right.
func TestCorrects(t *testing.T) {
	r := newRand()
	for _, c := range codes() {
		for range 6 {
			word := encode(t, c, random(r, c.Field, randomLength(r, c)-c.Parity))
			e := r.IntN(c.Parity/2 + 1)
			s := r.IntN(c.Parity - 2*e + 1)
			if r.IntN(2) == 0 {
				s = c.Parity - 2*e
			}
			errors, erased := pick(r, len(word), e, s)
			bad := damaged(r, c.Field, word, append(errors, erased[:r.IntN(s+1)]...))
			checkDecode(t, c, bad, erased, word)
		}
	}
}

// TestLargestCodes checks P7.5, P7.6 and P7.7 at the limits of the largest fields.
func TestLargestCodes(t *testing.T) {
	r := newRand()
	for _, f := range []api.Field{binary(12, 0x1069), prime(4093)} {
		last := f.Size - 2
		for _, c := range []api.Code{{Field: f, Parity: last, First: last}, {Field: f, Parity: last / 2, First: 1}, {Field: f, Parity: 40}} {
			word := encode(t, c, random(r, f, f.Size-1-c.Parity))
			if c.Field.Size == 4096 && len(word) != api.MaxWord {
				t.Errorf("Encode with %v: %d symbols", c, len(word))
			}
			e := c.Parity / 3
			errors, erased := pick(r, len(word), e, c.Parity-2*e)
			bad := damaged(r, f, word, append(errors, erased...))
			checkDecode(t, c, bad, erased, word)
			syndromes, errno := reedsolomon.Syndromes(c, word)
			check(t, "Syndromes", c, syndromes, errno, make([]int, c.Parity))
		}
	}
}

// TestDetects checks P7.7, also for words with more errors than can be corrected.
func TestDetects(t *testing.T) {
	r := newRand()
	found := 0
	for _, c := range codes() {
		for range 30 {
			n := shortLength(r, c)
			bad := random(r, c.Field, n)
			erased := r.Perm(n)[:r.IntN(c.Parity+1)]
			got, e := reedsolomon.Decode(c, bad, erased)
			if e != api.OK {
				continue
			}
			found++
			syndromes, errno := reedsolomon.Syndromes(c, got.Word)
			check(t, "Syndromes", c, syndromes, errno, make([]int, c.Parity))
			if !isWithin(c, bad, erased, got.Word) {
				t.Errorf("Decode with %v of %v with %v erased: %v", c, bad, erased, got)
			}
		}
	}
	if found < 100 {
		t.Errorf("only %d words were decoded", found)
	}
}

// TestLinear checks P7.8.
func TestLinear(t *testing.T) {
	r := newRand()
	for _, c := range codes() {
		n := shortLength(r, c)
		a, b := encode(t, c, random(r, c.Field, n-c.Parity)), encode(t, c, random(r, c.Field, n-c.Parity))
		by := r.IntN(c.Field.Size)
		added, multiplied := slices.Clone(a), slices.Clone(a)
		for i := range a {
			added[i], multiplied[i] = sum(c.Field, a[i], b[i]), product(c.Field, a[i], by)
		}
		for _, word := range [][]int{added, multiplied} {
			syndromes, e := reedsolomon.Syndromes(c, word)
			check(t, "Syndromes", c, syndromes, e, make([]int, c.Parity))
			check(t, "Encode", c, encode(t, c, word[:n-c.Parity]), api.OK, word)
			checkDecode(t, c, word, nil, word)
		}
	}
}
