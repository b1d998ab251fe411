package runs

import (
	"iter"

	"barscan/api"
)

// all returns an iterator over the maximal runs of equal modules of a row: whether they are dark, and their width.
func all(row []bool) iter.Seq2[bool, int] {
	return func(yield func(bool, int) bool) {
		start := 0
		for i := range row {
			if i+1 < len(row) && row[i+1] == row[i] {
				continue
			}
			if !yield(row[i], i+1-start) {
				return
			}
			start = i + 1
		}
	}
}

// appendRun appends a run of equal modules to a row.
func appendRun(row []bool, dark bool, width int) []bool {
	for range width {
		row = append(row, dark)
	}
	return row
}

// areWidths returns whether all numbers are from 1 to MaxRow.
func areWidths(widths []int) bool {
	for _, w := range widths {
		if w < 1 || w > api.MaxRow {
			return false
		}
	}
	return true
}

// sum returns the sum of widths.
func sum(widths []int) int {
	s := 0
	for _, w := range widths {
		s += w
	}
	return s
}

// isClearlyWider returns whether a width is at least one and a half times another one.
func isClearlyWider(wide, narrow int) bool {
	return 2*wide >= 3*narrow
}

// divisor returns the greatest common divisor of a and b, of which one may be 0.
func divisor(a, b int) int {
	for b != 0 {
		a, b = b, a%b
	}
	return a
}
