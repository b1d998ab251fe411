package runs_test

import (
	"math"
	"math/rand/v2"
	"slices"
	"testing"

	"barscan/api"
	"barscan/runs"
)

// notWidths are numbers that are not widths.
var notWidths = []int{0, -1, api.MaxRow + 1, -api.MaxRow, 1 << 32, 1<<32 + 1, math.MaxInt, math.MinInt}

func newRand() *rand.Rand {
	return rand.New(rand.NewPCG(10, 11))
}

// rowOf returns the row that is written with the digits 0 and 1.
func rowOf(s string) []bool {
	var row []bool
	for _, c := range s {
		row = append(row, c == '1')
	}
	return row
}

// textOf returns a row as digits.
func textOf(row []bool) string {
	var s []byte
	for _, dark := range row {
		c := byte('0')
		if dark {
			c = '1'
		}
		s = append(s, c)
	}
	return string(s)
}

// allRows returns all rows of at most n modules.
func allRows(n int) [][]bool {
	var list [][]bool
	for length := range n + 1 {
		for bits := range 1 << length {
			row := make([]bool, length)
			for i := range row {
				row[i] = bits>>i&1 == 1
			}
			list = append(list, row)
		}
	}
	return list
}

// randomRow returns n modules with runs of about the same width.
func randomRow(r *rand.Rand, n, width int) []bool {
	row := make([]bool, n)
	dark := false
	for i := range row {
		if r.IntN(width) == 0 {
			dark = !dark
		}
		row[i] = dark
	}
	return row
}

// randomWidths returns n widths from 1 to limit.
func randomWidths(r *rand.Rand, n, limit int) []int {
	widths := make([]int, n)
	for i := range widths {
		widths[i] = 1 + r.IntN(limit)
	}
	return widths
}

// times returns each width k times as wide.
func times(widths []int, k int) []int {
	out := slices.Clone(widths)
	for i := range out {
		out[i] *= k
	}
	return out
}

// total returns the sum of numbers.
func total(list []int) int {
	sum := 0
	for _, n := range list {
		sum += n
	}
	return sum
}

// modules returns the row of widths.
func modules(t *testing.T, widths []int) []bool {
	t.Helper()
	row, e := runs.Modules(widths)
	if e != api.OK {
		t.Fatalf("Modules(%v): %d", widths, e)
	}
	return row
}

// stretched returns the row in which each module is repeated k times.
func stretched(t *testing.T, row []bool, k int) []bool {
	t.Helper()
	out, e := runs.Stretch(row, k)
	if e != api.OK {
		t.Fatalf("Stretch of %d modules by %d: %d", len(row), k, e)
	}
	return out
}
