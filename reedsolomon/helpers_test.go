package reedsolomon_test

import (
	"math"
	"math/rand/v2"
	"slices"
	"testing"

	"barscan/api"
	"barscan/reedsolomon"
)

// binary returns the binary field with a polynomial.
func binary(degree, poly int) api.Field {
	return api.Field{Char: 2, Size: 1 << degree, Poly: poly}
}

// prime returns the prime field with an odd number of elements.
func prime(p int) api.Field {
	return api.Field{Char: p, Size: p}
}

// tinyFields returns fields that are so small that all words can be tried.
func tinyFields() []api.Field {
	return []api.Field{prime(3), binary(2, 7), prime(5)}
}

// fields returns all fields of the tests. In those with the polynomials 0x1f and 0x11b the generator is not 2.
func fields() []api.Field {
	return append(tinyFields(), prime(7), binary(3, 11), prime(11), binary(4, 0x13), binary(4, 0x1f), prime(31), binary(6, 0x43), binary(8, 0x11d), binary(8, 0x11b), binary(8, 0x12d), prime(929))
}

// tinyCodes returns all codes over tiny fields.
func tinyCodes() []api.Code {
	var list []api.Code
	for _, f := range tinyFields() {
		for parity := 1; parity <= f.Size-2; parity++ {
			for first := range f.Size - 1 {
				list = append(list, api.Code{Field: f, Parity: parity, First: first})
			}
		}
	}
	return list
}

// codes returns codes over all fields, with the limits of their numbers.
func codes() []api.Code {
	list := tinyCodes()
	r := newRand()
	for _, f := range fields() {
		last := f.Size - 2
		for _, parity := range []int{1, 2, last, last/2 + 1, 1 + r.IntN(last), 1 + r.IntN(min(last, 20))} {
			for _, first := range []int{r.IntN(2), last - r.IntN(2)*r.IntN(last)} {
				list = append(list, api.Code{Field: f, Parity: min(parity, last), First: first})
			}
		}
	}
	return list
}

// invalidFields returns fields that are not valid, though 1 and 0 may seem to be possible numbers of their codes.
func invalidFields() []api.Field {
	return []api.Field{
		{},
		{Char: 2, Size: 4},
		{Char: 2, Size: 4, Poly: 5},
		{Char: 2, Size: 8, Poly: 7},
		{Char: 2, Size: 8192, Poly: 0x201b},
		{Char: 2, Size: math.MaxInt, Poly: 7},
		{Char: 2, Size: math.MinInt, Poly: 7},
		{Char: 0, Size: 7},
		{Char: 9, Size: 9},
		{Char: 3, Size: 9},
		{Char: 7, Size: 7, Poly: 7},
		{Char: 4099, Size: 4099},
		{Char: -7, Size: -7},
		{Char: math.MaxInt, Size: math.MaxInt},
	}
}

// invalidCodes returns codes that are not valid.
func invalidCodes() []api.Code {
	list := []api.Code{{}}
	for _, f := range invalidFields() {
		list = append(list, api.Code{Field: f, Parity: 1}, api.Code{Field: f, Parity: 0}, api.Code{Field: f, Parity: 2, First: 1})
	}
	for _, f := range []api.Field{prime(7), binary(8, 0x11d)} {
		for _, n := range []int{-1, f.Size - 1, f.Size, -f.Size, math.MaxInt, math.MinInt, 1 << 32} {
			list = append(list, api.Code{Field: f, Parity: n}, api.Code{Field: f, Parity: 2, First: n}, api.Code{Field: f, Parity: n, First: n})
		}
		list = append(list, api.Code{Field: f}, api.Code{Field: f, First: 1})
	}
	// With two elements there is no place for a check symbol.
	return append(list, api.Code{Field: binary(1, 3), Parity: 1}, api.Code{Field: binary(1, 2), Parity: 0})
}

// outside returns numbers that are not from 0 to limit - 1.
func outside(limit int) []int {
	return []int{-1, limit, limit + 1, -limit - 1, math.MaxInt, math.MinInt, 1 << 32}
}

func newRand() *rand.Rand {
	return rand.New(rand.NewPCG(9, 10))
}

// random returns n elements, many of them 0.
func random(r *rand.Rand, f api.Field, n int) []int {
	list := make([]int, n)
	for i := range list {
		if r.IntN(4) > 0 {
			list[i] = r.IntN(f.Size)
		}
	}
	return list
}

// randomLength returns a number of symbols that words of a code can have.
func randomLength(r *rand.Rand, c api.Code) int {
	return c.Parity + 1 + r.IntN(c.Field.Size-1-c.Parity)
}

// shortLength returns such a number that is not much greater than the least one, so that simple computations do not take too long.
func shortLength(r *rand.Rand, c api.Code) int {
	return c.Parity + 1 + r.IntN(min(40, c.Field.Size-1-c.Parity))
}

// damaged returns a word in which the symbols with some indexes have other values.
func damaged(r *rand.Rand, f api.Field, word, indexes []int) []int {
	out := slices.Clone(word)
	for _, i := range indexes {
		out[i] = (out[i] + 1 + r.IntN(f.Size-1)) % f.Size
	}
	return out
}

// pick returns e + s different indexes of a word: those of errors and those of erased symbols.
func pick(r *rand.Rand, n, e, s int) (errors, erased []int) {
	list := r.Perm(n)[:e+s]
	return list[:e:e], list[e:]
}

// sum returns a + b, computed in a simple way.
func sum(f api.Field, a, b int) int {
	if f.Char == 2 {
		return a ^ b
	}
	return (a + b) % f.Size
}

// difference returns a - b, computed in a simple way.
func difference(f api.Field, a, b int) int {
	if f.Char == 2 {
		return a ^ b
	}
	return (a - b + f.Size) % f.Size
}

// product returns a * b, computed in a simple way: a is doubled, and added for each bit of b.
func product(f api.Field, a, b int) int {
	out := 0
	for ; b > 0; b /= 2 {
		if b%2 == 1 {
			out = sum(f, out, a)
		}
		switch a *= 2; {
		case a < f.Size:
		case f.Char == 2:
			a ^= f.Poly
		default:
			a -= f.Size
		}
	}
	return out
}

// inverse returns 1 / a, computed in a simple way: by trying all elements.
func inverse(f api.Field, a int) int {
	for x := range f.Size {
		if product(f, a, x) == 1 {
			return x
		}
	}
	return 0
}

// powers returns the powers of the generator, which is found by trying all elements.
func powers(f api.Field) []int {
	for a := 1; a < f.Size; a++ {
		list := []int{1}
		for x := a; x != 1; x = product(f, x, a) {
			list = append(list, x)
		}
		if len(list) == f.Size-1 {
			return list
		}
	}
	return nil
}

// rootsOf returns the roots of a code.
func rootsOf(c api.Code) []int {
	list := powers(c.Field)
	out := make([]int, c.Parity)
	for i := range out {
		out[i] = list[(c.First+i)%len(list)]
	}
	return out
}

// valueOf returns the value of a word at x, computed in a simple way: the sum of the symbols times the powers of x.
func valueOf(f api.Field, word []int, x int) int {
	out, power := 0, 1
	for _, c := range slices.Backward(word) {
		out = sum(f, out, product(f, c, power))
		power = product(f, power, x)
	}
	return out
}

// isCodeword reports whether the values of a word at all roots are 0.
func isCodeword(f api.Field, roots, word []int) bool {
	return !slices.ContainsFunc(roots, func(x int) bool { return valueOf(f, word, x) != 0 })
}

// allWords returns all words with n symbols.
func allWords(f api.Field, n int) [][]int {
	word := make([]int, n)
	list := [][]int{slices.Clone(word)}
	for next(word, f.Size) {
		list = append(list, slices.Clone(word))
	}
	return list
}

// next counts a word up by one and reports whether it did not begin again with zeros.
func next(word []int, base int) bool {
	for i := range word {
		word[i]++
		if word[i] < base {
			return true
		}
		word[i] = 0
	}
	return false
}

// encode returns a codeword.
func encode(t *testing.T, c api.Code, data []int) []int {
	t.Helper()
	word, e := reedsolomon.Encode(c, data)
	if e != api.OK {
		t.Fatalf("Encode with %v: %d", c, e)
	}
	return word
}

// check checks the result of a call.
func check(t *testing.T, name string, c api.Code, got []int, e api.Errno, want []int) {
	t.Helper()
	if !slices.Equal(got, want) || e != api.OK {
		t.Errorf("%s with %v: %v, %d; want %v", name, c, got, e, want)
	}
}

// checkError checks that an error has come, and no symbols.
func checkError(t *testing.T, name string, c api.Code, got []int, e, want api.Errno) {
	t.Helper()
	if len(got) != 0 || e != want {
		t.Errorf("%s with %v: %d symbols, %d; want error %d", name, c, len(got), e, want)
	}
}
