package gs1_test

import (
	"math"
	"slices"
	"strings"
	"testing"

	"barscan/api"
	"barscan/gs1"
)

// TestChars checks P14.3 for elements and their errors.
func TestChars(t *testing.T) {
	for _, c := range []struct {
		l    []api.Element
		want string
	}{
		{[]api.Element{{AI: "01", Data: "09501101530003"}, {AI: "10", Data: "AB"}}, "^010950110153000310AB"},
		{[]api.Element{{AI: "10", Data: "AB"}, {AI: "01", Data: "09501101530003"}}, "^10AB^0109501101530003"},
		{[]api.Element{{AI: "01", Data: "09501101530003"}}, "^0109501101530003"},
		{[]api.Element{{AI: "20", Data: "07"}, {AI: "20", Data: "08"}}, "^20072008"},
		{[]api.Element{{AI: "30", Data: "7"}, {AI: "3901", Data: "8"}, {AI: "8020", Data: "x"}}, "^307^39018^8020x"},
		{[]api.Element{{AI: "30", Data: "12345678"}, {AI: "20", Data: "07"}}, "^3012345678^2007"},
	} {
		if got, e := gs1.Chars(c.l); !slices.Equal(got, charsOf(c.want)) || e != api.OK {
			t.Errorf("Chars(%v) = %v, %d, want %s", c.l, got, e, c.want)
		}
	}
	r := newRand()
	for n := 1; n < 20; n++ {
		for range 20 {
			l := randomElements(r, n)
			before := slices.Clone(l)
			if got, e := gs1.Chars(l); !slices.Equal(got, charsOf(charForm(l))) || e != api.OK {
				t.Fatalf("Chars(%v) = %v, %d, want %s", l, got, e, charForm(l))
			}
			if !slices.Equal(l, before) {
				t.Fatalf("Chars changed %v to %v", before, l)
			}
			checkListErrors(t, l, func(l []api.Element) (bool, api.Errno) {
				chars, e := gs1.Chars(l)
				return chars == nil, e
			})
		}
	}
	if chars, e := gs1.Chars(nil); chars != nil || e != api.ErrEmpty {
		t.Errorf("Chars of nothing = %v, %d", chars, e)
	}
}

// TestCharsLong checks P14.3 for the limit of the characters, which is checked after all elements.
func TestCharsLong(t *testing.T) {
	var l []api.Element
	for range 43 {
		l = append(l, element(90))
	}
	// FNC1 and 43 elements with their FNC1 are 1 + 43 * 93 = 4000 characters.
	for n, want := range map[int]api.Errno{1: api.OK, 90: api.OK, 91: api.ErrLength} {
		long := append(slices.Clone(l), element(n))
		chars, e := gs1.Chars(long)
		if e != want || e == api.OK && len(chars) != 4002+n || e != api.OK && chars != nil {
			t.Errorf("Chars with %d characters at last: %d characters, %d, want %d", n, len(chars), e, want)
		}
	}
	for n, want := range map[int]api.Errno{1: api.OK, 54: api.OK, 55: api.OK, 56: api.ErrLong, 57: api.ErrLong, 90: api.ErrLong, 91: api.ErrLength} {
		// FNC1 and the elements before the last one are 1 + 42 * 93 + 39 + 89 + 4 = 4039 characters.
		long := append(slices.Clone(l[:42]), element(36), element(86), api.Element{AI: "20", Data: "07"}, element(n))
		chars, e := gs1.Chars(long)
		if e != want || e == api.OK && !slices.Equal(chars, charsOf(charForm(long))) || e != api.OK && chars != nil {
			t.Errorf("Chars with %d characters at last: %d characters, %d, want %d, %d", n, len(chars), e, want, len(charForm(long)))
		}
	}
	long := slices.Repeat(l, 100)
	if chars, e := gs1.Chars(long); chars != nil || e != api.ErrLong {
		t.Errorf("Chars of %d elements: %d characters, %d", len(long), len(chars), e)
	}
	if chars, e := gs1.Chars(append(long, api.Element{AI: "01", Data: "09501101530004"})); chars != nil || e != api.ErrCheck {
		t.Errorf("Chars of %d elements: %d characters, %d", len(long)+1, len(chars), e)
	}
}

// wantFromChars returns what FromChars returns for characters.
func wantFromChars(chars []int) ([]api.Element, api.Errno) {
	if len(chars) > 4096 {
		return nil, api.ErrLong
	}
	text := []rune{}
	for _, c := range chars {
		if c < 0 || c > 127 && c != 256 {
			return nil, api.ErrChar
		}
		text = append(text, rune(c))
	}
	fields := strings.Split(string(text), "\u0100")
	if fields[0] != "" || len(fields) == 1 {
		return nil, api.ErrForm
	}
	if len(chars) == 1 {
		return nil, api.ErrEmpty
	}
	var l []api.Element
	for i, field := range fields[1:] {
		if field == "" {
			return nil, api.ErrForm
		}
		found, e := fieldElements(field)
		if e != api.OK {
			return nil, e
		}
		l = append(l, found...)
		f := forms[found[len(found)-1].AI]
		// An FNC1 must not follow data of a fixed length, nor stand at the end.
		if last := i == len(fields)-2; !last && (f.least == f.most || i == len(fields)-3 && fields[len(fields)-1] == "") {
			return nil, api.ErrForm
		}
	}
	return l, api.OK
}

// fieldElements returns the elements of characters without FNC1.
func fieldElements(field string) ([]api.Element, api.Errno) {
	var l []api.Element
	for field != "" {
		i := slices.IndexFunc(identifiers, func(ai string) bool { return strings.HasPrefix(field, ai) })
		if i < 0 {
			return nil, api.ErrNone
		}
		ai := identifiers[i]
		data, rest := field[len(ai):], ""
		if f := forms[ai]; f.least == f.most {
			if len(data) < f.most {
				return nil, api.ErrTruncated
			}
			data, rest = data[:f.most], data[f.most:]
		}
		x := api.Element{AI: ai, Data: data}
		if e := wantVerify(x); e != api.OK {
			return nil, e
		}
		l = append(l, x)
		field = rest
	}
	return l, api.OK
}

// checkFromChars compares FromChars with the reference.
func checkFromChars(t *testing.T, chars []int) api.Errno {
	t.Helper()
	before := slices.Clone(chars)
	got, e := gs1.FromChars(chars)
	want, fault := wantFromChars(chars)
	if !slices.Equal(got, want) || e != fault {
		t.Fatalf("FromChars(%v) = %v, %d, want %v, %d", chars, got, e, want, fault)
	}
	if !slices.Equal(chars, before) {
		t.Fatalf("FromChars changed %v to %v", before, chars)
	}
	return e
}

// TestFromChars checks P14.3 for the errors and their order; ^ is FNC1.
func TestFromChars(t *testing.T) {
	for _, c := range []struct {
		chars string
		want  api.Errno
	}{
		{"^010950110153000310AB", api.OK},
		{"^10AB^0109501101530003", api.OK},
		{"", api.ErrForm},
		{"1", api.ErrForm},
		{"10AB", api.ErrForm},
		{"10AB^", api.ErrForm},
		{"^", api.ErrEmpty},
		{"^^", api.ErrForm},
		{"^^10AB", api.ErrForm},
		{"^0", api.ErrNone},
		{"^0^1", api.ErrNone},
		{"^03", api.ErrNone},
		{"^X", api.ErrNone},
		{"^\x00", api.ErrNone},
		{"^\x7f", api.ErrNone},
		{"\x7f", api.ErrForm},
		{"^3106", api.ErrNone},
		{"^310", api.ErrNone},
		{"^310^5", api.ErrNone},
		{"^3105", api.ErrTruncated},
		{"^00", api.ErrTruncated},
		{"^01", api.ErrTruncated},
		{"^010950110153000", api.ErrTruncated},
		{"^01X", api.ErrTruncated},
		{"^010950110153000^3", api.ErrTruncated},
		{"^01^09501101530003", api.ErrTruncated},
		{"^2007", api.OK},
		{"^200", api.ErrTruncated},
		{"^20072008", api.OK},
		{"^2007200", api.ErrTruncated},
		{"^20072", api.ErrNone},
		{"^2007^", api.ErrForm},
		{"^2007^2008", api.ErrForm},
		{"^20A7", api.ErrChar},
		{"^20A7^", api.ErrChar},
		{"^17230229", api.ErrForm},
		{"^17240229", api.OK},
		{"^0109501101530004", api.ErrCheck},
		{"^0109501101530004^", api.ErrCheck},
		{"^10", api.ErrLength},
		{"^10^", api.ErrLength},
		{"^10^2007", api.ErrLength},
		{"^10AB", api.OK},
		{"^10AB^", api.ErrForm},
		{"^10AB^^", api.ErrForm},
		{"^10AB^^2007", api.ErrForm},
		{"^10AB^2007", api.OK},
		{"^10AB^2007^", api.ErrForm},
		{"^10AB^X", api.ErrNone},
		{"^10A B", api.ErrChar},
		{"^10A B^", api.ErrChar},
		{"^10A\x1d2007", api.ErrChar},
		{"^10ABCDEFGHIJKLMNOPQRSTU", api.ErrLength},
		{"^10ABCDEFGHIJKLMNOPQRSTU^", api.ErrLength},
		{"^10ABCDEFGHIJKLMNOPQRST^2007", api.OK},
		{"^10(20)07", api.ErrChar},
		{"^3011112222", api.OK},
		{"^30111122223", api.ErrLength},
		{"^8020x^8020y", api.OK},
		{"^99_^200", api.ErrTruncated},
	} {
		got, e := gs1.FromChars(charsOf(c.chars))
		if e != c.want || e != api.OK && got != nil {
			t.Errorf("FromChars of %q = %v, %d, want %d", c.chars, got, e, c.want)
		}
		checkFromChars(t, charsOf(c.chars))
	}
	got, _ := gs1.FromChars(charsOf("^10AB^0109501101530003"))
	if want := []api.Element{{AI: "10", Data: "AB"}, {AI: "01", Data: "09501101530003"}}; !slices.Equal(got, want) {
		t.Errorf("FromChars = %v, want %v", got, want)
	}
}

// TestFromCharsErrors checks P14.3 for numbers that are not allowed, and for the limit, which is checked first.
func TestFromCharsErrors(t *testing.T) {
	for _, c := range []int{-1, 128, 255, 257, 258, 259, 1 << 32, 1<<32 + 256, 1<<32 + '1', math.MaxInt, math.MinInt} {
		for _, chars := range [][]int{{c}, {c, 256}, {256, c}, append(charsOf("^0109501101530004"), c), append(charsOf("^10A"), c), append([]int{'1'}, c)} {
			if got, e := gs1.FromChars(chars); got != nil || e != api.ErrChar {
				t.Errorf("FromChars(%v) = %v, %d", chars, got, e)
			}
		}
		if got, e := gs1.FromChars(append(slices.Repeat([]int{'x'}, api.MaxText), c)); got != nil || e != api.ErrLong {
			t.Errorf("FromChars of too many characters with %d = %v, %d", c, got, e)
		}
	}
	longest := charsOf("^" + strings.Repeat("2007", 1022) + "30" + "12345")
	if len(longest) != api.MaxText {
		t.Fatalf("%d characters", len(longest))
	}
	if l, e := gs1.FromChars(longest); len(l) != 1023 || e != api.OK {
		t.Errorf("FromChars of %d characters: %d elements, %d", len(longest), len(l), e)
	}
	if l, e := gs1.FromChars(append(longest, '6')); l != nil || e != api.ErrLong {
		t.Errorf("FromChars of %d characters: %d elements, %d", len(longest)+1, len(l), e)
	}
}

// TestFromCharsAll checks P14.3 for all application identifiers with data of all lengths, alone and between others.
func TestFromCharsAll(t *testing.T) {
	r := newRand()
	for _, ai := range identifiers {
		for n := range forms[ai].most + 2 {
			for _, between := range []string{"", "^", "10A", "^2007", "^X", "^^", "2007"} {
				checkFromChars(t, charsOf("^"+ai+dataOf(r, ai, max(n, 1))[:min(n, forms[ai].most)]+between))
				checkFromChars(t, charsOf("^2007"+ai+randomFrom(r, digits, n)+between))
			}
		}
	}
}

// TestFromCharsRandom checks P14.3 for characters of elements, of which some are changed, left out or added.
func TestFromCharsRandom(t *testing.T) {
	r := newRand()
	count := map[api.Errno]int{}
	for range 30000 {
		chars := charsOf(charForm(randomElements(r, 1+r.IntN(4))))
		for range r.IntN(3) {
			i, c := r.IntN(len(chars)), []int{256, 256, '0', '1', 'A', ' ', 128}[r.IntN(7)]
			switch r.IntN(3) {
			case 0:
				chars[i] = c
			case 1:
				chars = slices.Insert(chars, i, c)
			default:
				chars = slices.Delete(chars, i, i+1)
			}
		}
		count[checkFromChars(t, chars)]++
	}
	for _, e := range []api.Errno{api.OK, api.ErrChar, api.ErrForm, api.ErrNone, api.ErrTruncated, api.ErrLength, api.ErrCheck} {
		if count[e] < 100 {
			t.Errorf("error %d only %d times", e, count[e])
		}
	}
	for range 30000 {
		checkFromChars(t, charsOf("^"+randomFrom(r, "0123^^2007A", r.IntN(12))))
	}
}
