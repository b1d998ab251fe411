package checkdigit_test

import (
	"math"
	"math/big"
	"slices"
	"strings"
	"testing"

	"barscan/api"
	"barscan/checkdigit"
)

// sumByDefinition returns the sum of the digits times the weights modulo m, with integers of any size.
func sumByDefinition(digits string, weights []int, m int) int {
	sum := new(big.Int)
	for i := range len(digits) {
		product := big.NewInt(int64(digits[len(digits)-1-i] - '0'))
		sum.Add(sum, product.Mul(product, big.NewInt(int64(weights[i%len(weights)]))))
	}
	return int(sum.Mod(sum, big.NewInt(int64(m))).Int64())
}

// TestWeightedExamples checks P9.3.
func TestWeightedExamples(t *testing.T) {
	for _, x := range []struct {
		digits  string
		weights []int
		m, want int
	}{
		{"123", []int{1, 3}, 10, 0}, {"", []int{5}, 10, 0}, {"9", []int{1}, 10, 9}, {"9", []int{1}, 9, 0}, {"12", []int{1, 10}, 100, 12}, {"12", []int{10, 1}, 100, 21},
		{"1", []int{-1}, 10, 9}, {"1", []int{-1}, 65536, 65535}, {"5", []int{-2}, 10, 0}, {"123", []int{0}, 7, 0}, {"12345", []int{1, 2, 3}, 1, 0}, {"12345", []int{1, 10, 100}, 1000, 357}, {"7", []int{3, 4, 5, 6}, 100, 21}, {"5901234123457", []int{1, 3}, 10, 0},
		{"8", []int{65535}, 65536, 65528}, {"9", []int{math.MaxInt}, 65536, 65527}, {"9", []int{math.MinInt}, 65535, 32763},
	} {
		if n, e := checkdigit.Weighted(x.digits, x.weights, x.m); n != x.want || e != api.OK {
			t.Errorf("Weighted(%q, %v, %d): %d, %d; want %d", x.digits, x.weights, x.m, n, e, x.want)
		}
	}
}

// TestWeighted checks P9.3 with integers of any size.
func TestWeighted(t *testing.T) {
	r := newRand()
	for i := range 3000 {
		text := randomText(r, digits, r.IntN(30))
		if i%500 == 0 {
			text = randomText(r, digits, api.MaxText)
		}
		weights := make([]int, 1+r.IntN(12))
		for j := range weights {
			weights[j] = []int{r.IntN(20), -r.IntN(20), int(r.Uint64()), 1<<16 - r.IntN(3), math.MaxInt - r.IntN(3), math.MinInt + r.IntN(3)}[r.IntN(6)]
		}
		m := []int{1, 2, 10, 11, 65535, 65536, 1 + r.IntN(65536)}[r.IntN(7)]
		before := slices.Clone(weights)
		want := sumByDefinition(text, weights, m)
		if n, e := checkdigit.Weighted(text, weights, m); n != want || e != api.OK {
			t.Errorf("Weighted(%q, %v, %d): %d, %d; want %d", text, weights, m, n, e, want)
		}
		if !slices.Equal(weights, before) {
			t.Errorf("the weights %v were changed", before)
		}
	}
}

// TestWeightedErrors checks the errors of P9.3, and their order.
func TestWeightedErrors(t *testing.T) {
	long := strings.Repeat("1", api.MaxText+1)
	type test struct {
		digits  string
		weights []int
		m       int
		want    api.Errno
	}
	tests := []test{{"1", nil, 10, api.ErrEmpty}, {"", nil, 10, api.ErrEmpty}, {"x", []int{}, 10, api.ErrEmpty}, {long, nil, 10, api.ErrEmpty}, {long, []int{1}, 10, api.ErrLong}, {long[1:] + "x", []int{1}, 10, api.ErrLong}, {long[1:], []int{1}, 65536, api.OK}}
	for _, m := range []int{0, -1, -10, 65537, 1 << 32, math.MaxInt, math.MinInt} {
		tests = append(tests, test{"1", []int{1}, m, api.ErrRange}, test{"1", nil, m, api.ErrRange}, test{long, nil, m, api.ErrRange}, test{"x", []int{1}, m, api.ErrRange})
	}
	for _, c := range []byte(allBytes()) {
		if c < '0' || c > '9' {
			one := string([]byte{c})
			tests = append(tests, test{one, []int{1}, 10, api.ErrChar}, test{"12" + one, []int{1}, 10, api.ErrChar}, test{one + "12", []int{0}, 1, api.ErrChar})
		}
	}
	for _, x := range tests {
		if n, e := checkdigit.Weighted(x.digits, x.weights, x.m); e != x.want || e != api.OK && n != 0 {
			t.Errorf("Weighted(%q, %v, %d): %d, %d; want %d", x.digits, x.weights, x.m, n, e, x.want)
		}
	}
}
