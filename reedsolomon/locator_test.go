package reedsolomon_test

import (
	"slices"
	"testing"

	"barscan/api"
	"barscan/reedsolomon"
)

// simpleLocator returns what the steps of the chapter find: C, and the last L. The polynomials have room for all coefficients that can occur.
func simpleLocator(f api.Field, s []int) (c []int, l int) {
	c, b := make([]int, 2*len(s)+2), make([]int, 2*len(s)+2)
	c[0], b[0] = 1, 1
	m, last := 1, 1
	for n := range s {
		d := 0
		for i := range l + 1 {
			d = sum(f, d, product(f, c[i], s[n-i]))
		}
		if d == 0 {
			m++
			continue
		}
		before := slices.Clone(c)
		by := product(f, d, inverse(f, last))
		for i := m; i < len(c); i++ {
			c[i] = difference(f, c[i], product(f, by, b[i-m]))
		}
		if 2*l <= n {
			b, l, last, m = before, n+1-l, d, 1
		} else {
			m++
		}
	}
	for c[len(c)-1] == 0 {
		c = c[:len(c)-1]
	}
	return c, l
}

// checkLocator checks P7.4 and P7.9 for syndromes.
func checkLocator(t *testing.T, f api.Field, s []int) {
	t.Helper()
	got, e := reedsolomon.Locator(f, s)
	want, l := simpleLocator(f, s)
	if !slices.Equal(got, want) || e != api.OK {
		t.Fatalf("Locator(%v, %v): %v, %d; want %v", f, s, got, e, want)
	}
	if got[0] != 1 || got[len(got)-1] == 0 || len(got) > l+1 {
		t.Fatalf("Locator(%v, %v): %v, for the last L %d", f, s, got, l)
	}
	for n := l; n < len(s); n++ {
		d := 0
		for i := range min(l+1, len(got)) {
			d = sum(f, d, product(f, got[i], s[n-i]))
		}
		if d != 0 {
			t.Fatalf("Locator(%v, %v): %v, and the sum at %d is %d", f, s, got, n, d)
		}
	}
}

// TestLocator checks P7.4 and P7.9.
func TestLocator(t *testing.T) {
	for _, f := range append(tinyFields(), binary(1, 2), binary(1, 3)) {
		for n := range 6 {
			for _, s := range allWords(f, n) {
				checkLocator(t, f, s)
			}
		}
	}
	r := newRand()
	for _, f := range fields() {
		for range 40 {
			checkLocator(t, f, random(r, f, r.IntN(25)))
		}
		// Zeros before and behind an element.
		s := make([]int, 12)
		s[5] = 1
		checkLocator(t, f, s)
		checkLocator(t, f, s[:6])
	}
	for _, f := range []api.Field{binary(12, 0x1069), prime(4093)} {
		checkLocator(t, f, random(r, f, 8))
	}
	got, e := reedsolomon.Locator(prime(7), []int{1, 3})
	check(t, "Locator", api.Code{Field: prime(7)}, got, e, []int{1, 4})
	got, e = reedsolomon.Locator(prime(7), nil)
	check(t, "Locator", api.Code{Field: prime(7)}, got, e, []int{1})
}

// TestLocatorErrors checks P7.4.
func TestLocatorErrors(t *testing.T) {
	for _, f := range invalidFields() {
		for _, s := range [][]int{nil, {0}, {1, 3}, make([]int, api.MaxWord+1)} {
			got, e := reedsolomon.Locator(f, s)
			checkError(t, "Locator", api.Code{Field: f}, got, e, api.ErrArg)
		}
	}
	for _, f := range fields() {
		for _, x := range outside(f.Size) {
			for _, s := range [][]int{{x}, {1, 1, x}, append(make([]int, api.MaxWord), x)} {
				got, e := reedsolomon.Locator(f, s)
				checkError(t, "Locator", api.Code{Field: f}, got, e, api.ErrArg)
			}
		}
		got, e := reedsolomon.Locator(f, make([]int, api.MaxWord+1))
		checkError(t, "Locator", api.Code{Field: f}, got, e, api.ErrLong)
		got, e = reedsolomon.Locator(f, make([]int, api.MaxWord))
		check(t, "Locator", api.Code{Field: f}, got, e, []int{1})
	}
}

// TestLongLocator checks P7.4 at its limit: the syndromes obey no short recurrence.
func TestLongLocator(t *testing.T) {
	r := newRand()
	for _, f := range []api.Field{binary(1, 3), binary(12, 0x1069), prime(4093)} {
		s := make([]int, api.MaxWord)
		for i := range s {
			s[i] = r.IntN(f.Size)
		}
		got, e := reedsolomon.Locator(f, s)
		if len(got) < api.MaxWord/2-20 || e != api.OK {
			t.Fatalf("Locator over %v: %d symbols, %d", f, len(got), e)
		}
		for n := api.MaxWord - 3; n < len(s); n++ {
			d := 0
			for i, c := range got {
				d = sum(f, d, product(f, c, s[n-i]))
			}
			if d != 0 {
				t.Errorf("Locator over %v: the sum at %d is %d", f, n, d)
			}
		}
	}
}
