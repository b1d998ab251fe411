package code128_test

import (
	"slices"
	"testing"

	"barscan/api"
	"barscan/code128"
)

// TestCheck checks P13.1 for random sequences and for long ones.
func TestCheck(t *testing.T) {
	for _, c := range []struct {
		values []int
		want   int
	}{
		{[]int{104, 65, 17}, 100},
		{[]int{103, 64}, 64},
		{[]int{105, 12, 34}, 82},
		{[]int{103}, 0},
		{[]int{104}, 1},
		{[]int{105}, 2},
		{[]int{105, 105, 105}, 8},
		{[]int{103, 103, 104, 105}, 8},
	} {
		if got, e := code128.Check(c.values); got != c.want || e != api.OK {
			t.Errorf("Check(%v) = %d, %d, want %d", c.values, got, e, c.want)
		}
	}
	r := newRand()
	for n := range 400 {
		values := []int{103 + r.IntN(3)}
		for range n {
			values = append(values, r.IntN(106))
		}
		before := slices.Clone(values)
		if got, e := code128.Check(values); got != checkValue(values) || e != api.OK {
			t.Errorf("Check(%v) = %d, %d, want %d", values, got, e, checkValue(values))
		}
		if !slices.Equal(values, before) {
			t.Errorf("Check changed %v to %v", before, values)
		}
	}
	long := append([]int{105}, repeated(1000000, 99, 105)...)
	if got, e := code128.Check(long); got != checkValue(long) || e != api.OK {
		t.Errorf("Check of %d values = %d, %d, want %d", len(long), got, e, checkValue(long))
	}
}

// TestCheckErrors checks P13.1 for the errors and their order.
func TestCheckErrors(t *testing.T) {
	if got, e := code128.Check(nil); got != 0 || e != api.ErrEmpty {
		t.Errorf("Check of nothing = %d, %d", got, e)
	}
	if got, e := code128.Check([]int{}); got != 0 || e != api.ErrEmpty {
		t.Errorf("Check of nothing = %d, %d", got, e)
	}
	for v := range 103 {
		if got, e := code128.Check([]int{v, 104}); got != 0 || e != api.ErrStart {
			t.Errorf("Check with the start value %d = %d, %d", v, got, e)
		}
	}
	for _, v := range append(notValues, 106) {
		for _, values := range [][]int{{v}, {104, v}, {104, 1, v, 2}, {5, v}, {v, 104}} {
			if got, e := code128.Check(values); got != 0 || e != api.ErrRange {
				t.Errorf("Check(%v) = %d, %d", values, got, e)
			}
		}
	}
}

// checkChars compares Chars with the reference.
func checkChars(t *testing.T, values []int) api.Errno {
	t.Helper()
	got, e := code128.Chars(values)
	want, fault := wantChars(values)
	if !slices.Equal(got, want) || e != fault {
		t.Fatalf("Chars(%v) = %v, %d, want %v, %d", values, got, e, want, fault)
	}
	return e
}

// TestChars checks P13.2 for all sequences with at most two further values, also those that are not allowed.
func TestChars(t *testing.T) {
	for start := range 107 {
		checkChars(t, finished(start))
		for a := range 107 {
			checkChars(t, finished(start, a))
			for b := range 107 {
				if start >= 103 || a+b < 10 {
					checkChars(t, finished(start, a, b))
				}
			}
		}
	}
}

// TestCharsExamples checks P13.2 for sequences that change code sets.
func TestCharsExamples(t *testing.T) {
	for _, c := range []struct {
		values []int
		want   []int
		e      api.Errno
	}{
		{[]int{104, 65, 17}, charsOf("a1"), api.OK},
		{[]int{103, 64}, []int{0}, api.OK},
		{[]int{105, 12, 34}, charsOf("1234"), api.OK},
		{[]int{105}, nil, api.OK},
		{[]int{103, 95, 63, 0}, []int{31, '_', ' '}, api.OK},
		{[]int{104, 95, 64, 63, 0}, []int{127, '`', '_', ' '}, api.OK},
		{[]int{105, 0, 99, 98, 96}, charsOf("00999896"), api.OK},
		{[]int{103, 98, 65, 65}, []int{'a', 1}, api.OK},
		{[]int{104, 98, 65, 65}, []int{1, 'a'}, api.OK},
		{[]int{104, 98, 33, 33}, charsOf("AA"), api.OK},
		{[]int{103, 100, 65, 101, 65, 99, 65}, []int{'a', 1, '6', '5'}, api.OK},
		{[]int{105, 101, 65, 99, 100, 65, 99}, []int{1, 'a'}, api.OK},
		{[]int{105, 102, 12, 102}, []int{256, '1', '2', 256}, api.OK},
		{[]int{103, 96, 97, 101, 102}, []int{258, 257, 259, 256}, api.OK},
		{[]int{104, 96, 97, 100, 102}, []int{258, 257, 259, 256}, api.OK},
		{[]int{104, 100, 65}, []int{259, 'a'}, api.OK},
		{[]int{103, 98}, nil, api.ErrMode},
		{[]int{103, 98, 96}, nil, api.ErrMode},
		{[]int{103, 98, 98, 65}, nil, api.ErrMode},
		{[]int{104, 98, 102, 65}, nil, api.ErrMode},
		{[]int{104, 98, 99, 12}, nil, api.ErrMode},
		{[]int{104, 103}, nil, api.ErrMode},
		{[]int{104, 106, 65}, nil, api.ErrMode},
		{[]int{105, 103}, nil, api.ErrMode},
		{[]int{105, 101, 98}, nil, api.ErrMode},
		{[]int{103, 65, 98, 103}, nil, api.ErrMode},
	} {
		if got, e := code128.Chars(finished(c.values...)); !slices.Equal(got, c.want) || e != c.e {
			t.Errorf("Chars(%v) = %v, %d, want %v, %d", c.values, got, e, c.want, c.e)
		}
	}
}

// TestCharsShiftCheck checks P13.2 for a shift that only the check value follows, which may be any value.
func TestCharsShiftCheck(t *testing.T) {
	low := 0
	for a := range 96 {
		values := finished(103, a, 98)
		if values[3] < 96 {
			low++
		}
		if got, e := code128.Chars(values); got != nil || e != api.ErrMode {
			t.Errorf("Chars(%v) = %v, %d", values, got, e)
		}
	}
	if low == 0 {
		t.Error("no check value that could follow a shift")
	}
}

// TestCharsErrors checks P13.2 for the errors and their order.
func TestCharsErrors(t *testing.T) {
	right := finished(104, 65, 17)
	for _, c := range []struct {
		values []int
		want   api.Errno
	}{
		{nil, api.ErrLength},
		{[]int{104}, api.ErrLength},
		{[]int{104, 106}, api.ErrLength},
		{[]int{-1}, api.ErrRange},
		{[]int{104, 107}, api.ErrRange},
		{[]int{5, 65, 17, 0, 105, 107}, api.ErrRange},
		{[]int{102, 1, 106}, api.ErrStart},
		{[]int{106, 3, 106}, api.ErrStart},
		{[]int{65, 17, 1, 2}, api.ErrStart},
		{[]int{104, 65, 17, 100}, api.ErrStop},
		{[]int{104, 65, 17, 100, 105}, api.ErrStop},
		{[]int{104, 65, 17, 99, 105}, api.ErrStop},
		{[]int{104, 65, 17, 99, 106}, api.ErrCheck},
		{[]int{104, 65, 17, 106}, api.ErrCheck},
		{[]int{104, 98, 98, 99, 106}, api.ErrCheck},
		{[]int{104, 104, 106}, api.ErrCheck},
		{[]int{104, 1, 106}, api.OK},
		{append(right, 106), api.ErrCheck},
		{append([]int{104}, right...), api.ErrCheck},
		{right, api.OK},
	} {
		got, e := code128.Chars(c.values)
		if e != c.want || e != api.OK && got != nil {
			t.Errorf("Chars(%v) = %v, %d, want %d", c.values, got, e, c.want)
		}
		checkChars(t, c.values)
	}
	for _, v := range notValues {
		for i := range right {
			values := slices.Clone(right)
			values[i] = v
			if got, e := code128.Chars(values); got != nil || e != api.ErrRange {
				t.Errorf("Chars(%v) = %v, %d", values, got, e)
			}
		}
	}
}

// TestCharsRandom checks P13.2 for random values, with and without a right frame, and for long sequences.
func TestCharsRandom(t *testing.T) {
	r := newRand()
	count := map[api.Errno]int{}
	for range 20000 {
		values := []int{103 + r.IntN(3)}
		for range r.IntN(12) {
			v := r.IntN(103)
			if r.IntN(4) == 0 {
				v = 96 + r.IntN(8)
			}
			values = append(values, v)
		}
		values = finished(values...)
		if r.IntN(3) == 0 {
			values[r.IntN(len(values))] = r.IntN(107)
		}
		count[checkChars(t, values)]++
	}
	for _, e := range []api.Errno{api.OK, api.ErrStart, api.ErrStop, api.ErrCheck, api.ErrMode} {
		if count[e] < 100 {
			t.Errorf("error %d only %d times", e, count[e])
		}
	}
	for n := range 300 {
		checkChars(t, randomSequence(r, n))
	}
	// The section names no limit for the sequence, nor for the characters.
	checkChars(t, finished(append([]int{105}, repeated(20000, 12)...)...))
}

// TestValuesExamples checks P13.3 for the chapter's examples, and for sequences of which several are equally short.
func TestValuesExamples(t *testing.T) {
	for _, c := range []struct {
		chars []int
		want  []int
	}{
		{charsOf("1234"), []int{105, 12, 34, 82, 106}},
		{charsOf("a1"), []int{104, 65, 17, 100, 106}},
		{[]int{0}, []int{103, 64, 64, 106}},
		{charsOf("A"), finished(103, 33)},
		{charsOf("12"), finished(105, 12)},
		{charsOf("123"), finished(103, 17, 18, 19)},
		{charsOf("12345"), finished(103, 17, 99, 23, 45)},
		{charsOf("1234A"), finished(105, 12, 34, 100, 33)},
		{[]int{256}, finished(103, 102)},
		{[]int{259}, finished(103, 101)},
		{[]int{259, 'a'}, finished(104, 100, 65)},
		{[]int{256, '1', '2'}, finished(105, 102, 12)},
		{[]int{'1', '2', 256, 'a'}, finished(104, 17, 18, 102, 65)},
		{[]int{'1', '2', '3', '4', 256, 'a'}, finished(105, 12, 34, 100, 102, 65)},
		{[]int{'1', '2', '3', '4', 256, 'A'}, finished(105, 12, 34, 100, 102, 33)},
		{[]int{'a', 0, 'b'}, finished(104, 65, 98, 64, 66)},
		{[]int{'a', 0, 0}, finished(103, 98, 65, 64, 64)},
		{[]int{'a', 'a', 0, 0}, finished(104, 65, 65, 101, 64, 64)},
	} {
		if got, e := code128.Values(c.chars); !slices.Equal(got, c.want) || e != api.OK {
			t.Errorf("Values(%v) = %v, %d, want %v", c.chars, got, e, c.want)
		}
		if want := shortest(c.chars); !slices.Equal(want, c.want) {
			t.Errorf("the reference gives %v for %v, want %v", want, c.chars, c.want)
		}
	}
}

// TestValuesSingle checks P13.3 for all characters alone.
func TestValuesSingle(t *testing.T) {
	for char := -3; char < 300; char++ {
		got, e := code128.Values([]int{char})
		if char < 0 || char > 127 && char < 256 || char > 259 {
			if got != nil || e != api.ErrChar {
				t.Errorf("Values of %d = %v, %d", char, got, e)
			}
			continue
		}
		if want := shortest([]int{char}); !slices.Equal(got, want) || e != api.OK {
			t.Errorf("Values of %d = %v, %d, want %v", char, got, e, want)
		}
	}
}

// TestValuesShort checks P13.3 and P13.8 for all short texts over a few characters, against all sequences.
func TestValuesShort(t *testing.T) {
	alphabet := []int{'1', 'A', 'a', 1, 256, 259}
	var visit func(chars []int)
	visit = func(chars []int) {
		if len(chars) > 0 {
			if got, want := valuesOf(t, chars), shortest(chars); !slices.Equal(got, want) {
				t.Fatalf("Values(%v) = %v, want %v", chars, got, want)
			}
		}
		if len(chars) < 5 {
			for _, c := range alphabet {
				visit(append(slices.Clone(chars), c))
			}
		}
	}
	visit(nil)
}

// TestValuesDigits checks P13.3 and P13.8 for digits between other characters, against all sequences.
func TestValuesDigits(t *testing.T) {
	sides := []string{"", "a", "\x01", "A", "aa", "a\x01"}
	for n := range 8 {
		for _, left := range sides {
			for _, right := range sides {
				chars := charsOf(left + "9876543210"[:n] + right)
				if len(chars) == 0 {
					continue
				}
				if got, want := valuesOf(t, chars), shortest(chars); !slices.Equal(got, want) {
					t.Errorf("Values(%v) = %v, want %v", chars, got, want)
				}
			}
		}
	}
}

// TestValuesRandom checks P13.3 and P13.8 for longer texts, against sequences that are made from the left.
func TestValuesRandom(t *testing.T) {
	r := newRand()
	for i := range 600 {
		chars := randomChars(r, 1+r.IntN(40))
		if i%100 == 0 {
			chars = randomChars(r, 300)
		}
		before := slices.Clone(chars)
		if got, want := valuesOf(t, chars), forward(chars); !slices.Equal(got, want) {
			t.Fatalf("Values(%v) = %v, want %v", chars, got, want)
		}
		if !slices.Equal(chars, before) {
			t.Fatalf("Values changed %v to %v", before, chars)
		}
	}
}

// TestValuesErrors checks P13.3 for the errors and their order.
func TestValuesErrors(t *testing.T) {
	if got, e := code128.Values(nil); got != nil || e != api.ErrEmpty {
		t.Errorf("Values of nothing = %v, %d", got, e)
	}
	if got, e := code128.Values([]int{}); got != nil || e != api.ErrEmpty {
		t.Errorf("Values of nothing = %v, %d", got, e)
	}
	for _, c := range notChars {
		for _, chars := range [][]int{{c}, {'a', c}, {c, 'a'}, append(repeated(api.MaxText-1, '1'), c)} {
			if got, e := code128.Values(chars); got != nil || e != api.ErrChar {
				t.Errorf("Values of %d characters with %d = %v, %d", len(chars), c, got, e)
			}
		}
		if got, e := code128.Values(append(repeated(api.MaxText, 'a'), c)); got != nil || e != api.ErrLong {
			t.Errorf("Values of too many characters with %d = %v, %d", c, got, e)
		}
	}
	if got, e := code128.Values(repeated(api.MaxText+1, '1')); got != nil || e != api.ErrLong {
		t.Errorf("Values of too many characters = %v, %d", got, e)
	}
}

// TestValuesLongest checks P13.3 for as many characters as are allowed.
func TestValuesLongest(t *testing.T) {
	half := api.MaxText / 2
	for _, c := range []struct {
		chars []int
		want  []int
	}{
		{repeated(half, '1', '2'), finished(append([]int{105}, repeated(half, 12)...)...)},
		{repeated(2*half, 'a'), finished(append([]int{104}, repeated(2*half, 65)...)...)},
		{repeated(half, 'a', 1), finished(append([]int{103}, repeated(half, 98, 65, 65)...)...)},
	} {
		if got, e := code128.Values(c.chars); !slices.Equal(got, c.want) || e != api.OK {
			t.Errorf("Values of %d characters: %d values, %d, want %d values", len(c.chars), len(got), e, len(c.want))
		}
	}
}
