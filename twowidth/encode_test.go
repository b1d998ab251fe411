package twowidth_test

import (
	"slices"
	"strings"
	"testing"

	"barscan/api"
	"barscan/twowidth"
)

// TestPattern checks P12.1 for all bytes and kinds.
func TestPattern(t *testing.T) {
	for kind, count := range map[api.SymOp]int{api.Code39: 44, api.Codabar: 20, api.ITF: 10} {
		found := 0
		for char := range 256 {
			want, fault := patternOf(kind, byte(char)), api.OK
			if char > 127 || want == "" {
				want, fault = "", api.ErrChar
			} else {
				found++
			}
			got, e := twowidth.Pattern(kind, byte(char))
			if e != fault || len(got) != len(want) {
				t.Fatalf("Pattern(%d, %q) = %v, %d, want %s, %d", kind, byte(char), got, e, want, fault)
			}
			for i := range got {
				if got[i] != (want[i] == 'w') {
					t.Errorf("Pattern(%d, %q) = %v, want %s", kind, byte(char), got, want)
				}
			}
		}
		if found != count {
			t.Errorf("kind %d: %d patterns, want %d", kind, found, count)
		}
	}
}

// TestPatternWide checks P12.1 against what the symbologies say of their patterns: three of nine elements are wide, or two of five, or two or three of seven.
func TestPatternWide(t *testing.T) {
	for _, kind := range kinds {
		for char := range 128 {
			got, e := twowidth.Pattern(kind, byte(char))
			if e != api.OK {
				continue
			}
			wide := 0
			for _, w := range got {
				if w {
					wide++
				}
			}
			ok := kind == api.Code39 && len(got) == 9 && wide == 3 || kind == api.ITF && len(got) == 5 && wide == 2 || kind == api.Codabar && len(got) == 7 && (wide == 2 || wide == 3)
			if !ok {
				t.Errorf("Pattern(%d, %q) = %v", kind, byte(char), got)
			}
		}
	}
}

// TestPatternErrors checks P12.1 for what is not a kind, also with a character that has no pattern.
func TestPatternErrors(t *testing.T) {
	for _, kind := range notKinds {
		for _, char := range []byte{'1', 'a', 0} {
			if got, e := twowidth.Pattern(kind, char); e != api.ErrArg || got != nil {
				t.Errorf("Pattern(%d, %q) = %v, %d", kind, char, got, e)
			}
		}
	}
	for _, char := range []byte{'a', '*', 'E', 0, 255} {
		if got, e := twowidth.Pattern(api.Codabar, char); e != api.ErrChar || got != nil {
			t.Errorf("Pattern of %q = %v, %d", char, got, e)
		}
	}
}

// TestPatternNew checks that a result is new memory.
func TestPatternNew(t *testing.T) {
	first, _ := twowidth.Pattern(api.Code39, 'W')
	clear(first)
	if again, _ := twowidth.Pattern(api.Code39, 'W'); !again[0] || !again[1] || !again[2] {
		t.Errorf("Pattern = %v after a change of the result before", again)
	}
}

// TestEncodeExamples checks P12.2 for the examples of the chapter.
func TestEncodeExamples(t *testing.T) {
	for _, c := range []struct {
		kind api.SymOp
		text string
		o    api.LinearOptions
		want []int
	}{
		{api.ITF, "10", ratio(2), []int{1, 1, 1, 1, 2, 1, 1, 1, 1, 2, 1, 2, 2, 1, 2, 1, 1}},
		{api.ITF, "1", checked(2), widthsOf(elementsOf(api.ITF, "17"), 1, 2)},
		{api.Code39, "A", ratio(3), []int{1, 3, 1, 1, 3, 1, 3, 1, 1, 1, 3, 1, 1, 1, 1, 3, 1, 1, 3, 1, 1, 3, 1, 1, 3, 1, 3, 1, 1}},
		{api.Code39, "CODE39", checked(2), widthsOf(elementsOf(api.Code39, "CODE39W"), 1, 2)},
		{api.Codabar, "A1B", checked(3), widthsOf(elementsOf(api.Codabar, "A1.B"), 1, 3)},
		{api.Codabar, "A1.B", ratio(3), widthsOf(elementsOf(api.Codabar, "A1.B"), 1, 3)},
		{api.Codabar, "AD", checked(2), widthsOf(elementsOf(api.Codabar, "A/D"), 1, 2)},
		{api.ITF, "00590123412345", ratio(3), widthsOf(elementsOf(api.ITF, "00590123412345"), 1, 3)},
	} {
		if got := encoded(t, c.kind, c.text, c.o); !slices.Equal(got, c.want) {
			t.Errorf("Encode(%d, %q, %v) = %v, want %v", c.kind, c.text, c.o, got, c.want)
		}
	}
}

// TestEncode checks P12.2 for texts of many lengths with all options, and that the add-on is ignored.
func TestEncode(t *testing.T) {
	for _, s := range randomSymbols(t, 60) {
		full := s.text
		if s.o.Check {
			full = withCheck(s.kind, full)
		}
		want := widthsOf(elementsOf(s.kind, full), 1, s.o.Ratio)
		if !slices.Equal(s.widths, want) {
			t.Errorf("Encode(%d, %q, %v) = %v, want %v", s.kind, s.text, s.o, s.widths, want)
		}
	}
}

// TestEncodeCheck checks P12.2 for all values that a check character can have.
func TestEncodeCheck(t *testing.T) {
	for _, c := range code39Text {
		text := "A" + string(c)
		if got := encoded(t, api.Code39, text, checked(2)); !slices.Equal(got, widthsOf(elementsOf(api.Code39, withCheck(api.Code39, text)), 1, 2)) {
			t.Errorf("Encode(%q) = %v", text, got)
		}
	}
	for _, c := range codabarText {
		for _, start := range codabarEnds {
			text := string(start) + string(c) + "C"
			if got := encoded(t, api.Codabar, text, checked(2)); !slices.Equal(got, widthsOf(elementsOf(api.Codabar, withCheck(api.Codabar, text)), 1, 2)) {
				t.Errorf("Encode(%q) = %v", text, got)
			}
		}
	}
	for _, c := range itfText {
		text := "12" + string(c)
		if got := encoded(t, api.ITF, text, checked(2)); !slices.Equal(got, widthsOf(elementsOf(api.ITF, withCheck(api.ITF, text)), 1, 2)) {
			t.Errorf("Encode(%q) = %v", text, got)
		}
	}
}

// TestEncodeLongest checks P12.2 for the longest texts.
func TestEncodeLongest(t *testing.T) {
	for _, c := range []struct {
		kind  api.SymOp
		text  string
		o     api.LinearOptions
		count int
	}{
		{api.Code39, strings.Repeat("Z", 1000), ratio(2), 10019},
		{api.Code39, strings.Repeat("Z", 1000), checked(3), 10029},
		{api.Codabar, "A" + strings.Repeat("7", 998) + "D", ratio(3), 7999},
		{api.Codabar, "A" + strings.Repeat("7", 998) + "D", checked(2), 8007},
		{api.ITF, strings.Repeat("9", 1000), ratio(2), 5007},
		{api.ITF, strings.Repeat("9", 999), checked(3), 5007},
	} {
		if got := encoded(t, c.kind, c.text, c.o); len(got) != c.count {
			t.Errorf("kind %d: %d widths, want %d", c.kind, len(got), c.count)
		}
	}
}

// TestEncodeErrors checks P12.2 for invalid arguments, and the order of the errors.
func TestEncodeErrors(t *testing.T) {
	for _, kind := range notKinds {
		if got, e := twowidth.Encode(kind, "", ratio(2)); e != api.ErrArg || got != nil {
			t.Errorf("Encode with the kind %d: %d", kind, e)
		}
	}
	for _, kind := range kinds {
		for _, n := range []int{-1, 0, 1, 4, 1 << 32, 1<<32 + 2} {
			if got, e := twowidth.Encode(kind, "", ratio(n)); e != api.ErrArg || got != nil {
				t.Errorf("Encode with the ratio %d: %d", n, e)
			}
		}
		if got, e := twowidth.Encode(kind, "", checked(2)); e != api.ErrEmpty || got != nil {
			t.Errorf("Encode of nothing: %d", e)
		}
		for _, text := range []string{strings.Repeat("1", 1001), strings.Repeat("a", 1001), "A" + strings.Repeat("1", 999) + "B"} {
			if got, e := twowidth.Encode(kind, text, ratio(2)); e != api.ErrLong || got != nil {
				t.Errorf("Encode of %d bytes: %d", len(text), e)
			}
		}
	}
	for _, c := range []struct {
		kind  api.SymOp
		text  string
		check bool
		want  api.Errno
	}{
		{api.Code39, "a", false, api.ErrChar},
		{api.Code39, "*", false, api.ErrChar},
		{api.Code39, "ABC*", true, api.ErrChar},
		{api.Code39, "A\x00", false, api.ErrChar},
		{api.Code39, "Ä", false, api.ErrChar},
		{api.Codabar, "A", false, api.ErrLength},
		{api.Codabar, "1", true, api.ErrLength},
		{api.Codabar, "x", false, api.ErrLength},
		{api.Codabar, "1x", false, api.ErrStart},
		{api.Codabar, "xA", false, api.ErrStart},
		{api.Codabar, "EA", false, api.ErrStart},
		{api.Codabar, "aA", false, api.ErrStart},
		{api.Codabar, "Ax1", false, api.ErrStop},
		{api.Codabar, "AE", true, api.ErrStop},
		{api.Codabar, "AxB", false, api.ErrChar},
		{api.Codabar, "AAB", false, api.ErrChar},
		{api.Codabar, "A1DB", true, api.ErrChar},
		{api.Codabar, "A,B", false, api.ErrChar},
		{api.Codabar, "A;B", false, api.ErrChar},
		{api.ITF, "x", false, api.ErrChar},
		{api.ITF, "1x", true, api.ErrChar},
		{api.ITF, "1/", false, api.ErrChar},
		{api.ITF, "1:", false, api.ErrChar},
		{api.ITF, "1", false, api.ErrLength},
		{api.ITF, "123", false, api.ErrLength},
		{api.ITF, "12", true, api.ErrLength},
		{api.ITF, "590123412345", true, api.ErrLength},
		{api.ITF, strings.Repeat("1", 1000), true, api.ErrLength},
		{api.ITF, strings.Repeat("1", 999), false, api.ErrLength},
	} {
		o := api.LinearOptions{Ratio: 2, Check: c.check}
		if got, e := twowidth.Encode(c.kind, c.text, o); e != c.want || got != nil {
			t.Errorf("Encode(%d, %q, %v) = %v, %d, want %d", c.kind, c.text, o, got, e, c.want)
		}
	}
}
