package runs_test

import (
	"math"
	"slices"
	"strings"
	"testing"

	"barscan/api"
	"barscan/runs"
)

// TestModules checks P10.1.
func TestModules(t *testing.T) {
	for _, x := range []struct {
		widths []int
		want   string
	}{
		{[]int{2, 1, 1}, "1101"}, {[]int{1}, "1"}, {[]int{4}, "1111"}, {[]int{1, 3, 2}, "100011"}, {[]int{1, 1, 1, 1, 1}, "10101"}, {[]int{3, 2, 1, 1, 2, 4, 1}, "11100101100001"},
		{[]int{api.MaxRow}, strings.Repeat("1", api.MaxRow)}, {[]int{1, api.MaxRow - 2, 1}, "1" + strings.Repeat("0", api.MaxRow-2) + "1"},
	} {
		if row, e := runs.Modules(x.widths); textOf(row) != x.want || e != api.OK {
			t.Errorf("Modules(%v): %d modules, %d", x.widths, len(row), e)
		}
	}
	r := newRand()
	for range 300 {
		widths := randomWidths(r, 1+2*r.IntN(20), 8)
		before := slices.Clone(widths)
		want := ""
		for i, w := range widths {
			want += strings.Repeat([]string{"1", "0"}[i%2], w)
		}
		if row, e := runs.Modules(widths); textOf(row) != want || e != api.OK {
			t.Errorf("Modules(%v): %s, %d", widths, textOf(row), e)
		}
		if !slices.Equal(widths, before) {
			t.Errorf("the widths %v were changed", before)
		}
	}
}

// TestModulesErrors checks the errors of P10.1, and their order.
func TestModulesErrors(t *testing.T) {
	type test struct {
		widths []int
		want   api.Errno
	}
	long := slices.Repeat([]int{1}, api.MaxRow+1)
	tests := []test{
		{nil, api.ErrEmpty}, {[]int{}, api.ErrEmpty}, {[]int{1, 1}, api.ErrLength}, {[]int{1, 0}, api.ErrLength}, {[]int{api.MaxRow, api.MaxRow}, api.ErrLength}, {[]int{1, -1, 1, 1}, api.ErrLength},
		{[]int{api.MaxRow, 1, 1}, api.ErrLong}, {[]int{1, 1, api.MaxRow - 1}, api.ErrLong}, {[]int{api.MaxRow, api.MaxRow, 0}, api.ErrRange}, {[]int{api.MaxRow, api.MaxRow, api.MaxRow + 1}, api.ErrRange},
		{long, api.ErrLong}, {long[1:], api.ErrLength}, {long[2:], api.OK}, {append(slices.Clone(long[1:]), 0), api.ErrRange},
	}
	for _, w := range notWidths {
		tests = append(tests, test{[]int{w}, api.ErrRange}, test{[]int{w, 1, 1}, api.ErrRange}, test{[]int{1, w, 1}, api.ErrRange}, test{[]int{1, 1, w}, api.ErrRange}, test{[]int{1, w}, api.ErrLength})
	}
	for _, x := range tests {
		if row, e := runs.Modules(x.widths); e != x.want || e != api.OK && len(row) > 0 {
			t.Errorf("Modules of %d widths: %d modules, %d; want %d", len(x.widths), len(row), e, x.want)
		}
	}
}

// TestWidthsExamples checks P10.2.
func TestWidthsExamples(t *testing.T) {
	for _, x := range []struct {
		row         string
		widths      []int
		left, right int
	}{
		{"0110001", []int{2, 3, 1}, 1, 0}, {"", nil, 0, 0}, {"0", nil, 1, 1}, {"0000", nil, 4, 4}, {"1", []int{1}, 0, 0}, {"111", []int{3}, 0, 0}, {"01", []int{1}, 1, 0}, {"10", []int{1}, 0, 1}, {"00100", []int{1}, 2, 2}, {"1101", []int{2, 1, 1}, 0, 0}, {"0001010110000", []int{1, 1, 1, 1, 2}, 3, 4},
	} {
		row := rowOf(x.row)
		if widths := runs.Widths(row); !slices.Equal(widths, x.widths) {
			t.Errorf("Widths of %s: %v", x.row, widths)
		}
		if left, right := runs.Margins(row); left != x.left || right != x.right {
			t.Errorf("Margins of %s: %d, %d", x.row, left, right)
		}
		if textOf(row) != x.row {
			t.Errorf("the row %s was changed", x.row)
		}
	}
}

// TestWidths checks P10.2 against the text of rows.
func TestWidths(t *testing.T) {
	rows := allRows(12)
	r := newRand()
	for i := range 50 {
		rows = append(rows, randomRow(r, 1000+i, 1+i))
	}
	rows = append(rows, randomRow(r, api.MaxRow, 3), randomRow(r, 2*api.MaxRow, 500), make([]bool, api.MaxRow+1))
	for _, row := range rows {
		text := textOf(row)
		symbol := strings.Trim(text, "0")
		var want []int
		for _, part := range strings.Split(strings.ReplaceAll(strings.ReplaceAll(symbol, "10", "1 0"), "01", "0 1"), " ") {
			if part != "" {
				want = append(want, len(part))
			}
		}
		if widths := runs.Widths(row); !slices.Equal(widths, want) {
			t.Errorf("Widths of %d modules: %v", len(row), widths)
		}
		wantLeft, wantRight := len(text)-len(strings.TrimLeft(text, "0")), len(text)-len(strings.TrimRight(text, "0"))
		if left, right := runs.Margins(row); left != wantLeft || right != wantRight {
			t.Errorf("Margins of %d modules: %d, %d", len(row), left, right)
		}
	}
}

// TestWide checks P10.4.
func TestWide(t *testing.T) {
	for _, x := range []struct {
		widths []int
		want   string
		e      api.Errno
	}{
		{[]int{2, 4, 2, 5}, "0101", api.OK}, {[]int{4, 5, 7}, "", api.ErrPattern}, {[]int{1}, "0", api.OK}, {[]int{7, 7, 7}, "000", api.OK}, {[]int{1, 2}, "01", api.OK}, {[]int{2, 1}, "10", api.OK}, {[]int{1, 3, 1}, "010", api.OK},
		{[]int{4, 5}, "00", api.OK}, {[]int{5, 4, 5}, "000", api.OK}, {[]int{2, 3}, "01", api.OK}, {[]int{4, 6}, "01", api.OK}, {[]int{6, 9, 8}, "", api.ErrPattern}, {[]int{6, 9, 7}, "", api.ErrPattern}, {[]int{9, 6, 6, 9}, "1001", api.OK},
		{[]int{1, 2, 3}, "001", api.OK}, {[]int{2, 3, 4}, "", api.ErrPattern}, {[]int{2, 3, 5}, "001", api.OK}, {[]int{10, 20, 30}, "001", api.OK}, {[]int{10, 21, 30}, "011", api.OK}, {[]int{10, 21, 31, 32}, "", api.ErrPattern}, {[]int{10, 21, 32}, "001", api.OK},
		{[]int{1, api.MaxRow}, "01", api.OK}, {[]int{api.MaxRow, api.MaxRow}, "00", api.OK}, {[]int{43690, 65535}, "01", api.OK}, {[]int{43691, 65536}, "00", api.OK},
	} {
		before := slices.Clone(x.widths)
		if wide, e := runs.Wide(x.widths); textOf(wide) != x.want || e != x.e {
			t.Errorf("Wide(%v): %s, %d", x.widths, textOf(wide), e)
		}
		if !slices.Equal(x.widths, before) {
			t.Errorf("the widths %v were changed", before)
		}
	}
}

// wideByDefinition returns which widths are wide, by the words of the chapter.
func wideByDefinition(widths []int) (string, api.Errno) {
	sorted := slices.Sorted(slices.Values(widths))
	m, M := sorted[0], sorted[len(sorted)-1]
	if 2*M < 3*m {
		return strings.Repeat("0", len(widths)), api.OK
	}
	text := ""
	var narrow, wide []int
	for _, w := range widths {
		if 2*w > m+M {
			text += "1"
			wide = append(wide, w)
		} else {
			text += "0"
			narrow = append(narrow, w)
		}
	}
	if 2*slices.Min(wide) < 3*slices.Max(narrow) {
		return "", api.ErrPattern
	}
	return text, api.OK
}

// TestWideByDefinition checks P10.4 for all lists of three small widths, and for longer ones.
func TestWideByDefinition(t *testing.T) {
	var lists [][]int
	for i := range 15 * 15 * 15 {
		lists = append(lists, []int{1 + i%15, 1 + i/15%15, 1 + i/225})
	}
	r := newRand()
	for i := range 3000 {
		lists = append(lists, randomWidths(r, 1+r.IntN(10), 1+i/10))
		near := randomWidths(r, 12, 10)
		for j := range near {
			near[j] += 20 + 30*r.IntN(2)
		}
		lists = append(lists, near)
	}
	for _, widths := range lists {
		want, wantE := wideByDefinition(widths)
		if wide, e := runs.Wide(widths); textOf(wide) != want || e != wantE {
			t.Errorf("Wide(%v): %s, %d; want %s, %d", widths, textOf(wide), e, want, wantE)
		}
	}
}

// TestWideErrors checks the other errors of P10.4.
func TestWideErrors(t *testing.T) {
	for _, widths := range [][]int{nil, {}} {
		if wide, e := runs.Wide(widths); len(wide) > 0 || e != api.ErrEmpty {
			t.Errorf("Wide(%v): %v, %d", widths, wide, e)
		}
	}
	for _, w := range notWidths {
		for _, widths := range [][]int{{w}, {4, 5, 7, w}, {w, 4, 5, 7}, {1, w, 2}} {
			if wide, e := runs.Wide(widths); len(wide) > 0 || e != api.ErrRange {
				t.Errorf("Wide(%v): %v, %d", widths, wide, e)
			}
		}
	}
}

// TestStretch checks Stretch of P10.5.
func TestStretch(t *testing.T) {
	for _, row := range allRows(6) {
		for k := 1; k < 6; k++ {
			want := ""
			for _, c := range textOf(row) {
				want += strings.Repeat(string(c), k)
			}
			if out, e := runs.Stretch(row, k); textOf(out) != want || e != api.OK {
				t.Errorf("Stretch(%s, %d): %s, %d", textOf(row), k, textOf(out), e)
			}
		}
	}
}

// TestStretchLimits checks the errors of Stretch of P10.5, and their order.
func TestStretchLimits(t *testing.T) {
	for _, x := range []struct {
		n, k int
		want api.Errno
	}{
		{1, api.MaxRow, api.OK}, {1, api.MaxRow + 1, api.ErrLong}, {2, api.MaxRow / 2, api.OK}, {2, api.MaxRow/2 + 1, api.ErrLong}, {3, api.MaxRow / 3, api.OK}, {3, api.MaxRow/3 + 1, api.ErrLong}, {api.MaxRow, 1, api.OK}, {api.MaxRow + 1, 1, api.ErrLong}, {api.MaxRow, 2, api.ErrLong},
		{0, 1, api.OK}, {0, api.MaxRow + 1, api.OK}, {0, math.MaxInt, api.OK}, {1, math.MaxInt, api.ErrLong}, {2, 1 << 62, api.ErrLong}, {4, 1 << 62, api.ErrLong}, {8, math.MaxInt, api.ErrLong},
		{0, 0, api.ErrRange}, {1, 0, api.ErrRange}, {1, -1, api.ErrRange}, {5, math.MinInt, api.ErrRange}, {api.MaxRow + 1, 0, api.ErrRange}, {api.MaxRow + 1, -1, api.ErrRange},
	} {
		out, e := runs.Stretch(make([]bool, x.n), x.k)
		if e != x.want || e != api.OK && len(out) > 0 {
			t.Errorf("Stretch of %d modules by %d: %d modules, %d", x.n, x.k, len(out), e)
		}
		if e == api.OK && x.n > 0 && len(out) != x.n*x.k {
			t.Errorf("Stretch of %d modules by %d: %d modules", x.n, x.k, len(out))
		}
	}
}

// TestShrink checks Shrink of P10.5 for all short rows: the result exists exactly if each k modules are equal.
func TestShrink(t *testing.T) {
	for _, row := range allRows(12) {
		for k := 1; k < 14; k++ {
			text := textOf(row)
			want, wantE := shrunkText(text, k)
			if out, e := runs.Shrink(row, k); textOf(out) != want || e != wantE {
				t.Errorf("Shrink(%s, %d): %s, %d; want %s, %d", text, k, textOf(out), e, want, wantE)
			}
			if textOf(row) != text {
				t.Errorf("the row %s was changed", text)
			}
		}
	}
}

// shrunkText returns the first of each k digits, if they are equal.
func shrunkText(text string, k int) (string, api.Errno) {
	if len(text)%k != 0 {
		return "", api.ErrLength
	}
	out := ""
	for i := 0; i < len(text); i += k {
		if text[i:i+k] != strings.Repeat(text[i:i+1], k) {
			return "", api.ErrForm
		}
		out += text[i : i+1]
	}
	return out, api.OK
}

// TestShrinkErrors checks the errors of Shrink of P10.5, and their order.
func TestShrinkErrors(t *testing.T) {
	for _, k := range []int{0, -1, -2, math.MinInt} {
		for _, s := range []string{"", "1", "01", "0011"} {
			if out, e := runs.Shrink(rowOf(s), k); len(out) > 0 || e != api.ErrRange {
				t.Errorf("Shrink(%s, %d): %s, %d", s, k, textOf(out), e)
			}
		}
	}
	for _, x := range []struct {
		s    string
		k    int
		want api.Errno
	}{
		{"", math.MaxInt, api.OK}, {"1", math.MaxInt, api.ErrLength}, {"01010", 2, api.ErrLength}, {"0101", 2, api.ErrForm}, {"011000", 2, api.ErrForm}, {"000111", 2, api.ErrForm}, {"000001", 3, api.ErrForm}, {"1000", 4, api.ErrForm},
	} {
		if out, e := runs.Shrink(rowOf(x.s), x.k); len(out) > 0 || e != x.want {
			t.Errorf("Shrink(%s, %d): %s, %d", x.s, x.k, textOf(out), e)
		}
	}
}

// TestUnit checks P10.6.
func TestUnit(t *testing.T) {
	for _, x := range []struct {
		widths []int
		want   int
	}{
		{[]int{4, 6}, 2}, {nil, 0}, {[]int{}, 0}, {[]int{1}, 1}, {[]int{7}, 7}, {[]int{7, 7}, 7}, {[]int{12, 18, 27}, 3}, {[]int{6, 10, 15}, 1}, {[]int{9, 3}, 3}, {[]int{3, 9}, 3}, {[]int{1 << 40, 1 << 41}, 1 << 40}, {[]int{math.MaxInt, math.MaxInt}, math.MaxInt}, {[]int{math.MaxInt, 7}, 7},
		{[]int{0}, 0}, {[]int{4, 0}, 0}, {[]int{0, 4}, 0}, {[]int{4, -6}, 0}, {[]int{-4, 6}, 0}, {[]int{-4}, 0}, {[]int{1, 4, 0}, 0}, {[]int{4, 6, math.MinInt}, 0},
	} {
		before := slices.Clone(x.widths)
		if n := runs.Unit(x.widths); n != x.want {
			t.Errorf("Unit(%v): %d; want %d", x.widths, n, x.want)
		}
		if !slices.Equal(x.widths, before) {
			t.Errorf("the widths %v were changed", before)
		}
	}
	r := newRand()
	for range 500 {
		widths := times(randomWidths(r, 1+r.IntN(5), 40), 1+r.IntN(12))
		want := slices.Min(widths)
		for slices.ContainsFunc(widths, func(w int) bool { return w%want != 0 }) {
			want--
		}
		if n := runs.Unit(widths); n != want {
			t.Errorf("Unit(%v): %d; want %d", widths, n, want)
		}
	}
}
