package runs_test

import (
	"math"
	"math/big"
	"slices"
	"testing"

	"barscan/api"
	"barscan/runs"
)

// lists returns all lists of n numbers of at least 1 with a sum, the lexicographically greatest first.
func lists(n, sum int) [][]int {
	if n == 1 {
		return [][]int{{sum}}
	}
	var all [][]int
	for first := sum - n + 1; first >= 1; first-- {
		for _, rest := range lists(n-1, sum-first) {
			all = append(all, append([]int{first}, rest...))
		}
	}
	return all
}

// squares returns the sum of the squares that is to be least.
func squares(widths, list []int, modules int) int {
	out, sum := 0, total(widths)
	for i, w := range widths {
		d := sum*list[i] - modules*w
		out += d * d
	}
	return out
}

// quantizeByDefinition tries all lists.
func quantizeByDefinition(widths []int, modules int) []int {
	var best []int
	for _, list := range lists(len(widths), modules) {
		if best == nil || squares(widths, list, modules) < squares(widths, best, modules) {
			best = list
		}
	}
	return best
}

// quantizeByOne adds one module after the other, each where it adds least to the sum of the squares, which is exact with integers of any size.
func quantizeByOne(widths []int, modules int) []int {
	list := slices.Repeat([]int{1}, len(widths))
	sum := total(widths)
	for range modules - len(widths) {
		best := 0
		for i := range widths {
			if added(sum, list[i], modules*widths[i]).Cmp(added(sum, list[best], modules*widths[best])) < 0 {
				best = i
			}
		}
		list[best]++
	}
	return list
}

// added returns how much the square of sum*r - product grows if r grows by one.
func added(sum, r, product int) *big.Int {
	before, after := big.NewInt(int64(sum*r-product)), big.NewInt(int64(sum*(r+1)-product))
	return after.Mul(after, after).Sub(after, before.Mul(before, before))
}

// TestQuantizeExamples checks P10.3.
func TestQuantizeExamples(t *testing.T) {
	for _, x := range []struct {
		widths []int
		total  int
		want   []int
	}{
		{[]int{10, 21, 29, 10}, 7, []int{1, 2, 3, 1}}, {[]int{5}, 1, []int{1}}, {[]int{5}, 9, []int{9}}, {[]int{1, 1}, 2, []int{1, 1}}, {[]int{1, 1}, 3, []int{2, 1}}, {[]int{1, 1, 1}, 4, []int{2, 1, 1}}, {[]int{1, 1, 1}, 5, []int{2, 2, 1}}, {[]int{100, 1, 1}, 3, []int{1, 1, 1}}, {[]int{100, 1, 1}, 4, []int{2, 1, 1}}, {[]int{1, 1, 100}, 6, []int{1, 1, 4}},
		{[]int{3, 1}, 2, []int{1, 1}}, {[]int{1, 3}, 6, []int{2, 4}}, {[]int{3, 1}, 6, []int{5, 1}}, {[]int{api.MaxRow}, api.MaxRow, []int{api.MaxRow}}, {[]int{1, api.MaxRow}, api.MaxRow, []int{1, api.MaxRow - 1}}, {[]int{1, 1}, api.MaxRow, []int{api.MaxRow / 2, api.MaxRow / 2}},
	} {
		if list, e := runs.Quantize(x.widths, x.total); !slices.Equal(list, x.want) || e != api.OK {
			t.Errorf("Quantize(%v, %d): %v, %d; want %v", x.widths, x.total, list, e, x.want)
		}
	}
}

// checkQuantize compares the result of Quantize.
func checkQuantize(t *testing.T, widths []int, modules int, want []int) {
	t.Helper()
	before := slices.Clone(widths)
	if list, e := runs.Quantize(widths, modules); !slices.Equal(list, want) || e != api.OK {
		t.Errorf("Quantize(%v, %d): %v, %d; want %v", widths, modules, list, e, want)
	}
	if !slices.Equal(widths, before) {
		t.Errorf("the widths %v were changed", before)
	}
}

// TestQuantize checks P10.3 against all lists.
func TestQuantize(t *testing.T) {
	for a := 1; a <= 7; a++ {
		for b := 1; b <= 7; b++ {
			for c := 1; c <= 7; c++ {
				for modules := 3; modules <= 10; modules++ {
					checkQuantize(t, []int{a, b, c}, modules, quantizeByDefinition([]int{a, b, c}, modules))
				}
			}
		}
	}
	r := newRand()
	for i := range 600 {
		n := 1 + r.IntN(6)
		widths := randomWidths(r, n, []int{2, 3, 10, 100, 2000}[i%5])
		modules := n + r.IntN(8)
		checkQuantize(t, widths, modules, quantizeByDefinition(widths, modules))
	}
}

// TestQuantizeByOne checks P10.3 for longer lists and greater numbers.
func TestQuantizeByOne(t *testing.T) {
	r := newRand()
	for i := range 60 {
		n := 1 + r.IntN(70)
		widths := randomWidths(r, n, []int{2, 4, 30, 1000, api.MaxRow}[i%5])
		if i%3 == 0 {
			widths[r.IntN(n)] = api.MaxRow
		}
		modules := n + r.IntN(100)
		checkQuantize(t, widths, modules, quantizeByOne(widths, modules))
	}
}

// TestQuantizeLong checks P10.3 at its limits: no module that is moved to another width makes the sum of the squares less, and none that is moved to an earlier one leaves it as it is.
func TestQuantizeLong(t *testing.T) {
	r := newRand()
	ones := slices.Repeat([]int{1}, api.MaxRow)
	most := slices.Repeat([]int{api.MaxRow}, api.MaxRow)
	for _, x := range []struct {
		widths []int
		total  int
	}{
		{ones, api.MaxRow}, {most, api.MaxRow}, {ones[1:], api.MaxRow}, {most[:40000], api.MaxRow}, {ones[:2], api.MaxRow}, {most[:3], api.MaxRow}, {randomWidths(r, 30000, api.MaxRow), api.MaxRow}, {randomWidths(r, 40000, 3), api.MaxRow - 1}, {randomWidths(r, 100, api.MaxRow), api.MaxRow}, {append(slices.Clone(ones[:1000]), api.MaxRow), 60000}, {append(slices.Clone(most[:1000]), 1), 60000},
	} {
		list, e := runs.Quantize(x.widths, x.total)
		if e != api.OK || len(list) != len(x.widths) || total(list) != x.total || slices.Min(list) < 1 {
			t.Fatalf("Quantize of %d widths with %d modules: %d", len(x.widths), x.total, e)
		}
		checkMoves(t, x.widths, list, x.total)
	}
}

// checkMoves checks that moving one module does not improve a list.
func checkMoves(t *testing.T, widths, list []int, modules int) {
	t.Helper()
	sum := total(widths)
	// The module whose loss saves most, the last of several ones, and the one whose addition costs least, the first of several ones.
	var saved, cost *big.Int
	last, first := 0, 0
	for i, w := range widths {
		if c := added(sum, list[i], modules*w); cost == nil || c.Cmp(cost) < 0 {
			cost, first = c, i
		}
		if list[i] > 1 {
			if s := added(sum, list[i]-1, modules*w); saved == nil || s.Cmp(saved) >= 0 {
				saved, last = s, i
			}
		}
	}
	if saved == nil {
		return
	}
	if order := saved.Cmp(cost); order > 0 || order == 0 && first < last {
		t.Errorf("a module of width %d of %d fits better to width %d", last, len(widths), first)
	}
}

// TestQuantizeErrors checks the errors of P10.3, and their order.
func TestQuantizeErrors(t *testing.T) {
	type test struct {
		widths []int
		total  int
		want   api.Errno
	}
	long := slices.Repeat([]int{1}, api.MaxRow+1)
	bad := slices.Clone(long)
	bad[5] = 0
	tests := []test{{nil, 5, api.ErrEmpty}, {[]int{}, 0, api.ErrEmpty}, {nil, -1, api.ErrEmpty}, {nil, math.MaxInt, api.ErrEmpty}, {long, api.MaxRow, api.ErrLong}, {long, api.MaxRow + 1, api.ErrLong}, {long, 0, api.ErrLong}, {bad, api.MaxRow, api.ErrLong}, {bad[1:], api.MaxRow, api.ErrRange}, {long[1:], api.MaxRow, api.OK}, {long[1:], api.MaxRow - 1, api.ErrRange}}
	for _, n := range []int{0, 1, 2, -1, -3, math.MinInt, api.MaxRow + 1, 1 << 40, math.MaxInt} {
		tests = append(tests, test{[]int{1, 2, 3}, n, api.ErrRange})
	}
	for _, w := range notWidths {
		tests = append(tests, test{[]int{w}, 5, api.ErrRange}, test{[]int{w, 1}, 5, api.ErrRange}, test{[]int{1, w}, 5, api.ErrRange}, test{[]int{1, w, 2}, 5, api.ErrRange})
	}
	for _, x := range tests {
		if list, e := runs.Quantize(x.widths, x.total); e != x.want || e != api.OK && len(list) > 0 {
			t.Errorf("Quantize of %d widths with %d modules: %d numbers, %d; want %d", len(x.widths), x.total, len(list), e, x.want)
		}
	}
}
