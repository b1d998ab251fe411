package gs1_test

import (
	"regexp"
	"slices"
	"strings"
	"testing"

	"barscan/api"
	"barscan/gs1"
)

// parts is the text form of an element at the beginning, if there is one.
var parts = regexp.MustCompile(`^\(([^)]*)\)([^(]*)`)

// wantParse returns what Parse returns for a text.
func wantParse(s string) ([]api.Element, api.Errno) {
	if len(s) > 4096 {
		return nil, api.ErrLong
	}
	if s == "" {
		return nil, api.ErrEmpty
	}
	var l []api.Element
	for s != "" {
		m := parts.FindStringSubmatch(s)
		if m == nil {
			return nil, api.ErrForm
		}
		x := api.Element{AI: m[1], Data: m[2]}
		if e := wantVerify(x); e != api.OK {
			return nil, e
		}
		l = append(l, x)
		s = s[len(m[0]):]
	}
	return l, api.OK
}

// checkParse compares Parse with the reference.
func checkParse(t *testing.T, s string) api.Errno {
	t.Helper()
	got, e := gs1.Parse(s)
	want, fault := wantParse(s)
	if !slices.Equal(got, want) || e != fault {
		t.Fatalf("Parse(%q) = %v, %d, want %v, %d", s, got, e, want, fault)
	}
	return e
}

// TestParse checks P14.2 for the chapter's example, and for the errors and their order.
func TestParse(t *testing.T) {
	got, e := gs1.Parse("(01)09501101530003(10)AB")
	if want := []api.Element{{AI: "01", Data: "09501101530003"}, {AI: "10", Data: "AB"}}; !slices.Equal(got, want) || e != api.OK {
		t.Errorf("Parse = %v, %d, want %v", got, e, want)
	}
	for _, c := range []struct {
		s    string
		want api.Errno
	}{
		{"", api.ErrEmpty},
		{"(", api.ErrForm},
		{")", api.ErrForm},
		{"()", api.ErrNone},
		{"(10", api.ErrForm},
		{"10)A", api.ErrForm},
		{" (10)A", api.ErrForm},
		{"(10)", api.ErrLength},
		{"(10)A", api.OK},
		{"(10)A(", api.ErrForm},
		{"(10)A(20", api.ErrForm},
		{"(10)A(20)", api.ErrLength},
		{"(10)A(20)07", api.OK},
		{"(10)A)", api.ErrChar},
		{"(10))A", api.ErrChar},
		{"((10)A", api.ErrNone},
		{"(1(0)A", api.ErrNone},
		{"(10)A((20)07", api.ErrNone},
		{"(10)A B", api.ErrChar},
		{"(10 )A", api.ErrNone},
		{"(20)07A", api.ErrLength},
		{"(20)0A", api.ErrChar},
		{"(17)230229", api.ErrForm},
		{"(17)240229", api.OK},
		{"(01)09501101530004", api.ErrCheck},
		{"(01)09501101530004(", api.ErrCheck},
		{"(03)1(10", api.ErrNone},
		{"(10)A(01)09501101530004(20)A", api.ErrCheck},
		{"(10)A\n(20)07", api.ErrChar},
		{"(10)A(20)07(10)A", api.OK},
		{"(10)\xff", api.ErrChar},
		{"(1\xff)A", api.ErrNone},
	} {
		got, e := gs1.Parse(c.s)
		if e != c.want || e != api.OK && got != nil {
			t.Errorf("Parse(%q) = %v, %d, want %d", c.s, got, e, c.want)
		}
		checkParse(t, c.s)
	}
}

// TestParseRandom checks P14.2 for texts of elements, of which some bytes are changed, left out or added.
func TestParseRandom(t *testing.T) {
	r := newRand()
	count := map[api.Errno]int{}
	for range 20000 {
		s := textForm(randomElements(r, 1+r.IntN(4)))
		for range r.IntN(3) {
			i := r.IntN(len(s))
			switch r.IntN(3) {
			case 0:
				s = s[:i] + randomFrom(r, "()0123456789A\x00^", 1) + s[i+1:]
			case 1:
				s = s[:i] + randomFrom(r, "()0123456789A ", 1) + s[i:]
			default:
				s = s[:i] + s[i+1:]
			}
		}
		count[checkParse(t, s)]++
	}
	for _, e := range []api.Errno{api.OK, api.ErrForm, api.ErrNone, api.ErrLength, api.ErrChar, api.ErrCheck} {
		if count[e] < 50 {
			t.Errorf("error %d only %d times", e, count[e])
		}
	}
	for range 20000 {
		checkParse(t, randomFrom(r, "()(10)A(20)07", r.IntN(12)))
	}
}

// TestParseLong checks P14.2 for the limit of the text, which is checked first.
func TestParseLong(t *testing.T) {
	longest := strings.Repeat("(20)07", 682) + "(30)"
	if len(longest) != api.MaxText {
		t.Fatalf("%d bytes", len(longest))
	}
	for _, c := range []struct {
		s    string
		want api.Errno
	}{
		{longest[:4092], api.OK},
		{longest[:4086] + "(30)123456", api.OK},
		{longest[:4086] + "(30)1234567", api.ErrLong},
		{longest, api.ErrLength},
		{longest + "1", api.ErrLong},
		{strings.Repeat("(", 4096), api.ErrForm},
		{strings.Repeat("(", 4097), api.ErrLong},
		{strings.Repeat("x", 4097), api.ErrLong},
	} {
		got, e := gs1.Parse(c.s)
		if e != c.want || e != api.OK && got != nil {
			t.Errorf("Parse of %d bytes: %d elements, %d, want %d", len(c.s), len(got), e, c.want)
		}
		checkParse(t, c.s)
	}
}

// TestFormat checks P14.2 for elements and their errors.
func TestFormat(t *testing.T) {
	r := newRand()
	for n := 1; n < 20; n++ {
		for range 20 {
			l := randomElements(r, n)
			before := slices.Clone(l)
			if got, e := gs1.Format(l); got != textForm(l) || e != api.OK {
				t.Fatalf("Format(%v) = %q, %d", l, got, e)
			}
			if !slices.Equal(l, before) {
				t.Fatalf("Format changed %v to %v", before, l)
			}
			checkListErrors(t, l, func(l []api.Element) (bool, api.Errno) {
				s, e := gs1.Format(l)
				return s == "", e
			})
		}
	}
	if s, e := gs1.Format(nil); s != "" || e != api.ErrEmpty {
		t.Errorf("Format of nothing = %q, %d", s, e)
	}
	if s, e := gs1.Format([]api.Element{}); s != "" || e != api.ErrEmpty {
		t.Errorf("Format of nothing = %q, %d", s, e)
	}
}

// checkListErrors checks the error of a list of elements in which some are wrong: it is that of the first wrong one.
func checkListErrors(t *testing.T, l []api.Element, run func([]api.Element) (bool, api.Errno)) {
	t.Helper()
	wrong := []api.Element{{AI: "03", Data: "1"}, {}, {AI: "20", Data: "1"}, {AI: "20", Data: "1A"}, {AI: "17", Data: "230229"}, {AI: "01", Data: "09501101530004"}, {AI: "10", Data: "(20)07"}, {AI: "10)A(20", Data: "07"}, element(91)}
	for i := range l {
		for j, x := range wrong {
			changed := slices.Clone(l)
			changed[i] = x
			changed = append(changed, wrong[(j+1)%len(wrong)])
			if empty, e := run(changed); !empty || e != wantVerify(x) {
				t.Fatalf("the elements %v: %d, want %d", changed, e, wantVerify(x))
			}
		}
	}
}

// TestFormatLong checks P14.2 for the limit of the text, which is checked after all elements.
func TestFormatLong(t *testing.T) {
	var l []api.Element
	for range 43 {
		l = append(l, element(90))
	}
	// 43 elements have 43 * 94 = 4042 bytes.
	for n, want := range map[int]api.Errno{1: api.OK, 49: api.OK, 50: api.OK, 51: api.ErrLong, 52: api.ErrLong, 90: api.ErrLong, 91: api.ErrLength} {
		long := append(slices.Clone(l), element(n))
		s, e := gs1.Format(long)
		if e != want || e == api.OK && s != textForm(long) || e != api.OK && s != "" {
			t.Errorf("Format with %d characters at last: %d bytes, %d, want %d", n, len(s), e, want)
		}
	}
	long := slices.Repeat(l, 100)
	if s, e := gs1.Format(long); s != "" || e != api.ErrLong {
		t.Errorf("Format of %d elements: %d bytes, %d", len(long), len(s), e)
	}
	if s, e := gs1.Format(append(long, api.Element{AI: "01", Data: "09501101530004"})); s != "" || e != api.ErrCheck {
		t.Errorf("Format of %d elements: %d bytes, %d", len(long)+1, len(s), e)
	}
}
