package galois_test

import (
	"math"
	"math/rand/v2"
	"testing"

	"barscan/api"
)

// sum returns a + b, computed in a simple way.
func sum(f api.Field, a, b int) int {
	if f.Char == 2 {
		return a ^ b
	}
	return (a + b) % f.Size
}

// product returns a * b, computed in a simple way: a is doubled, and added for each bit of b.
func product(f api.Field, a, b int) int {
	out := 0
	for ; b > 0; b /= 2 {
		if b%2 == 1 {
			out = sum(f, out, a)
		}
		switch a *= 2; {
		case a < f.Size:
		case f.Char == 2:
			a ^= f.Poly
		default:
			a -= f.Size
		}
	}
	return out
}

// powers returns a^0, a^1 and so on for an element other than 0, until 1 comes again.
func powers(f api.Field, a int) []int {
	list := []int{1}
	for x := a; x != 1; x = product(f, x, a) {
		list = append(list, x)
	}
	return list
}

// irreducible returns for each number below 2^13 whether it is an irreducible polynomial, found by multiplying all others.
func irreducible() []bool {
	list := make([]bool, 1<<13)
	for poly := 2; poly < len(list); poly++ {
		list[poly] = true
	}
	for a := 2; a < len(list); a++ {
		for b := 2; b < len(list); b++ {
			p := 0
			for i := range 13 {
				if b>>i&1 == 1 {
					p ^= a << i
				}
			}
			// The degree of the product does not fall as b grows.
			if p >= len(list) {
				break
			}
			list[p] = false
		}
	}
	return list
}

// primes returns for each number up to most whether it is a prime.
func primes(most int) []bool {
	list := make([]bool, most+1)
	for n := 2; n <= most; n++ {
		list[n] = true
		for d := 2; d < n; d++ {
			if n%d == 0 {
				list[n] = false
				break
			}
		}
	}
	return list
}

// binary returns the binary field with a polynomial.
func binary(degree, poly int) api.Field {
	return api.Field{Char: 2, Size: 1 << degree, Poly: poly}
}

// prime returns the prime field with an odd number of elements.
func prime(p int) api.Field {
	return api.Field{Char: p, Size: p}
}

// smallFields returns fields that are so small that all pairs of elements can be tried.
func smallFields() []api.Field {
	return []api.Field{
		binary(1, 2), binary(1, 3), binary(2, 7), binary(3, 11), binary(3, 13), binary(4, 0x13), binary(4, 0x19), binary(4, 0x1f), binary(5, 37),
		prime(3), prime(5), prime(7), prime(11), prime(13), prime(31),
	}
}

// largeFields returns larger fields.
func largeFields() []api.Field {
	return []api.Field{
		binary(6, 0x43), binary(7, 0x83), binary(8, 0x11d), binary(8, 0x12d), binary(8, 0x11b), binary(9, 0x203), binary(10, 0x409), binary(11, 0x805), binary(12, 0x1069), binary(12, 0x1053),
		prime(127), prime(257), prime(929), prime(3571), prime(4079), prime(4091), prime(4093),
	}
}

// fields returns all fields of the tests.
func fields() []api.Field {
	return append(smallFields(), largeFields()...)
}

// invalid returns fields that are not valid.
func invalid() []api.Field {
	return []api.Field{
		{},
		{Char: 2, Size: 2},
		{Char: 2, Size: 4},
		{Char: 2, Size: 4, Poly: 4},
		{Char: 2, Size: 4, Poly: 5},
		{Char: 2, Size: 4, Poly: 11},
		{Char: 2, Size: 4, Poly: 3},
		{Char: 2, Size: 4, Poly: -7},
		{Char: 2, Size: 1, Poly: 1},
		{Char: 2, Size: 0, Poly: 0},
		{Char: 2, Size: 3, Poly: 3},
		{Char: 2, Size: 5, Poly: 7},
		{Char: 2, Size: 6, Poly: 7},
		{Char: 2, Size: 7, Poly: 7},
		{Char: 2, Size: 255, Poly: 0x11d},
		{Char: 2, Size: 257, Poly: 0x11d},
		{Char: 2, Size: 128, Poly: 0x11d},
		{Char: 2, Size: -256, Poly: 0x11d},
		{Char: 2, Size: 256, Poly: 0x11c},
		{Char: 2, Size: 256, Poly: math.MinInt},
		{Char: 2, Size: 256, Poly: 0x11d + 1<<32},
		{Char: 2, Size: 8192, Poly: 0x201b},
		{Char: 2, Size: math.MinInt, Poly: 7},
		{Char: 2, Size: math.MaxInt, Poly: 7},
		{Char: -2, Size: 4, Poly: 7},
		{Char: 4, Size: 4, Poly: 7},
		{Char: 0, Size: 4, Poly: 7},
		{Char: 1, Size: 1},
		{Char: 0, Size: 7},
		{Char: 2, Size: 7},
		{Char: 3, Size: 7},
		{Char: 7, Size: 49},
		{Char: 7, Size: 5},
		{Char: 7, Size: 7, Poly: 7},
		{Char: 7, Size: 7, Poly: -1},
		{Char: 9, Size: 9},
		{Char: 3, Size: 9},
		{Char: 961, Size: 961},
		{Char: 3721, Size: 3721},
		{Char: 4087, Size: 4087},
		{Char: 4095, Size: 4095},
		{Char: 4099, Size: 4099},
		{Char: -7, Size: -7},
		{Char: math.MaxInt, Size: math.MaxInt},
		{Char: math.MinInt, Size: math.MinInt},
	}
}

// notElements returns numbers that are not elements of a field.
func notElements(f api.Field) []int {
	return []int{-1, f.Size, f.Size + 1, -f.Size, math.MaxInt, math.MinInt, 1 << 32}
}

func newRand() *rand.Rand {
	return rand.New(rand.NewPCG(7, 8))
}

// pairs calls try with all pairs of elements of small fields, and with many pairs of elements of the others.
func pairs(try func(f api.Field, a, b int)) {
	for _, f := range smallFields() {
		for a := range f.Size {
			for b := range f.Size {
				try(f, a, b)
			}
		}
	}
	r := newRand()
	for _, f := range largeFields() {
		for range 1500 {
			try(f, r.IntN(f.Size), r.IntN(f.Size))
		}
		for _, a := range []int{0, 1, f.Size - 1} {
			for _, b := range []int{0, 1, f.Size - 1} {
				try(f, a, b)
			}
		}
	}
}

// elements calls try with all elements of small fields, and with many elements of the others.
func elements(try func(f api.Field, a int)) {
	for _, f := range fields() {
		for a := 0; a < f.Size; a += 1 + f.Size/400 {
			try(f, a)
		}
		try(f, f.Size-1)
	}
}

// check checks the result of a call of a function with two arguments.
func check(t *testing.T, name string, f api.Field, a, b, got int, e api.Errno, want int) {
	t.Helper()
	if got != want || e != api.OK {
		t.Errorf("%s(%v, %d, %d) = %d, %d; want %d", name, f, a, b, got, e, want)
	}
}

// checkError checks that an error has come, and 0.
func checkError(t *testing.T, name string, f api.Field, a, b, got int, e, want api.Errno) {
	t.Helper()
	if got != 0 || e != want {
		t.Errorf("%s(%v, %d, %d) = %d, %d; want error %d", name, f, a, b, got, e, want)
	}
}
