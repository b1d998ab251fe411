package runs_test

import (
	"slices"
	"testing"

	"barscan/api"
	"barscan/runs"
)

// TestInverse checks P10.7 for widths.
func TestInverse(t *testing.T) {
	r := newRand()
	lists := [][]int{{1}, {api.MaxRow}, {1, api.MaxRow - 2, 1}, slices.Repeat([]int{1}, api.MaxRow-1)}
	for range 500 {
		lists = append(lists, randomWidths(r, 1+2*r.IntN(30), 12))
	}
	for _, widths := range lists {
		if out := runs.Widths(modules(t, widths)); !slices.Equal(out, widths) {
			t.Errorf("Widths(Modules(%v)): %v", widths, out)
		}
	}
}

// TestInverseRows checks P10.7 for rows.
func TestInverseRows(t *testing.T) {
	r := newRand()
	rows := append(allRows(10), randomRow(r, 1000, 4), randomRow(r, api.MaxRow, 2), append(make([]bool, 1000), randomRow(r, api.MaxRow, 5)...))
	for _, row := range rows {
		if !slices.Contains(row, true) {
			continue
		}
		left, right := runs.Margins(row)
		if out := modules(t, runs.Widths(row)); !slices.Equal(out, row[left:len(row)-right]) {
			t.Errorf("Modules(Widths) of %d modules: %d modules", len(row), len(out))
		}
	}
}

// TestInverseScales checks P10.7 for Stretch and Shrink, and that Shrink by another number is as P10.5 says.
func TestInverseScales(t *testing.T) {
	r := newRand()
	rows := append(allRows(7), randomRow(r, 1000, 4), randomRow(r, api.MaxRow/9, 2))
	for _, row := range rows {
		for k := 1; k < 10; k++ {
			out, e := runs.Shrink(stretched(t, row, k), k)
			if !slices.Equal(out, row) || e != api.OK {
				t.Errorf("Shrink(Stretch(%d modules, %d)): %d modules, %d", len(row), k, len(out), e)
			}
		}
	}
	if out, e := runs.Shrink(stretched(t, rowOf("1"), api.MaxRow), api.MaxRow); textOf(out) != "1" || e != api.OK {
		t.Errorf("a row of one module: %s, %d", textOf(out), e)
	}
}

// TestUnitOfStretch checks that the unit of a row grows with the row (P10.6).
func TestUnitOfStretch(t *testing.T) {
	for _, row := range allRows(8) {
		unit := runs.Unit(runs.Widths(row))
		for k := 1; k < 5; k++ {
			if n := runs.Unit(runs.Widths(stretched(t, row, k))); n != k*unit {
				t.Errorf("the unit of %s, stretched by %d: %d", textOf(row), k, n)
			}
		}
	}
}

// TestExact checks P10.8.
func TestExact(t *testing.T) {
	r := newRand()
	for range 2000 {
		numbers := randomWidths(r, 1+r.IntN(40), 1+r.IntN(20))
		k := 1 + r.IntN(50)
		if list, e := runs.Quantize(times(numbers, k), total(numbers)); !slices.Equal(list, numbers) || e != api.OK {
			t.Errorf("Quantize of %v times %d: %v, %d", numbers, k, list, e)
		}
	}
	for _, numbers := range [][]int{{1}, {api.MaxRow}, {1, api.MaxRow - 1}, {api.MaxRow - 1, 1}, {20000, 1, 30000}} {
		for k := 1; k*slices.Max(numbers) <= api.MaxRow; k++ {
			if list, e := runs.Quantize(times(numbers, k), total(numbers)); !slices.Equal(list, numbers) || e != api.OK {
				t.Errorf("Quantize of %v times %d: %v, %d", numbers, k, list, e)
			}
			if k == 3 {
				break
			}
		}
	}
}

// TestNewMemory checks that results are new memory.
func TestNewMemory(t *testing.T) {
	row := rowOf("1101")
	first, e := runs.Stretch(row, 1)
	second, f := runs.Shrink(row, 1)
	if e != api.OK || f != api.OK {
		t.Fatal(e, f)
	}
	first[0], second[3] = false, false
	if textOf(row) != "1101" || textOf(first) != "0101" || textOf(second) != "1100" {
		t.Errorf("%s, %s, %s", textOf(row), textOf(first), textOf(second))
	}
	widths := []int{2, 1}
	list, e := runs.Quantize(widths, 3)
	if e != api.OK {
		t.Fatal(e)
	}
	list[0] = 9
	if !slices.Equal(widths, []int{2, 1}) {
		t.Errorf("the widths are %v", widths)
	}
}
