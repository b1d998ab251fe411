package gs1_test

import (
	"fmt"
	"strings"
	"testing"

	"barscan/api"
	"barscan/gs1"
)

// TestTable checks the reference itself: the number of application identifiers, and that none is the beginning of another one.
func TestTable(t *testing.T) {
	if len(forms) != 212 || len(identifiers) != 212 {
		t.Errorf("%d forms, %d application identifiers", len(forms), len(identifiers))
	}
	for _, a := range identifiers {
		for _, b := range identifiers {
			if a != b && strings.HasPrefix(b, a) {
				t.Errorf("%s is the beginning of %s", a, b)
			}
		}
	}
	if len(characters) != 80 {
		t.Errorf("%d characters", len(characters))
	}
}

// checkFixed compares Fixed with the reference.
func checkFixed(t *testing.T, ai string) {
	t.Helper()
	length, most, e := gs1.Fixed(ai)
	wantLength, wantMost, want := 0, 0, api.ErrNone
	if f, ok := forms[ai]; ok {
		wantMost, want = f.most, api.OK
		if f.least == f.most {
			wantLength = f.most
		}
	}
	if length != wantLength || most != wantMost || e != want {
		t.Errorf("Fixed(%q) = %d, %d, %d, want %d, %d, %d", ai, length, most, e, wantLength, wantMost, want)
	}
}

// TestFixed checks P14.1 for all strings of at most four digits, and for other strings.
func TestFixed(t *testing.T) {
	checkFixed(t, "")
	for n := range 10000 {
		for digits := 1; digits <= 5; digits++ {
			if ai := fmt.Sprintf("%0*d", digits, n); len(ai) == digits {
				checkFixed(t, ai)
			}
		}
	}
	for _, ai := range identifiers {
		for _, c := range "0459A/: \x00\xb1" {
			for i := range len(ai) + 1 {
				checkFixed(t, ai[:i]+string(c)+ai[i:])
				if i < len(ai) {
					checkFixed(t, ai[:i]+string(c)+ai[i+1:])
				}
			}
		}
		for b := range 256 {
			checkFixed(t, ai+string([]byte{byte(b)}))
			checkFixed(t, ai[:len(ai)-1]+string([]byte{byte(b)}))
		}
	}
	for _, c := range []struct {
		ai           string
		length, most int
		e            api.Errno
	}{
		{"00", 18, 18, api.OK}, {"01", 14, 14, api.OK}, {"02", 14, 14, api.OK}, {"03", 0, 0, api.ErrNone},
		{"10", 0, 20, api.OK}, {"11", 6, 6, api.OK}, {"14", 0, 0, api.ErrNone}, {"20", 2, 2, api.OK},
		{"3100", 6, 6, api.OK}, {"3105", 6, 6, api.OK}, {"3106", 0, 0, api.ErrNone}, {"310", 0, 0, api.ErrNone},
		{"3165", 6, 6, api.OK}, {"3170", 0, 0, api.ErrNone}, {"3190", 0, 0, api.ErrNone}, {"3200", 6, 6, api.OK},
		{"3299", 0, 0, api.ErrNone}, {"3375", 6, 6, api.OK}, {"3380", 0, 0, api.ErrNone},
		{"3909", 0, 15, api.OK}, {"3910", 0, 0, api.ErrNone}, {"3929", 0, 15, api.OK}, {"39", 0, 0, api.ErrNone},
		{"410", 13, 13, api.OK}, {"417", 13, 13, api.OK}, {"418", 0, 0, api.ErrNone}, {"8020", 0, 25, api.OK},
		{"402", 0, 0, api.ErrNone}, {"403", 0, 30, api.OK}, {"90", 0, 30, api.OK}, {"91", 0, 90, api.OK}, {"99", 0, 90, api.OK},
	} {
		length, most, e := gs1.Fixed(c.ai)
		if length != c.length || most != c.most || e != c.e {
			t.Errorf("Fixed(%q) = %d, %d, %d, want %d, %d, %d", c.ai, length, most, e, c.length, c.most, c.e)
		}
	}
}

// checkVerify compares Verify with the reference.
func checkVerify(t *testing.T, ai, data string) {
	t.Helper()
	x := api.Element{AI: ai, Data: data}
	if got, want := gs1.Verify(x), wantVerify(x); got != want {
		t.Fatalf("Verify(%q, %q) = %d, want %d", ai, data, got, want)
	}
}

// TestVerifyLengths checks P14.1 for all application identifiers and lengths.
func TestVerifyLengths(t *testing.T) {
	r := newRand()
	for _, ai := range identifiers {
		for n := range 100 {
			checkVerify(t, ai, randomFrom(r, digits, n))
			checkVerify(t, ai, randomFrom(r, characters, n))
			checkVerify(t, ai, strings.Repeat("(", n))
			if f := forms[ai]; n >= f.least && n <= f.most {
				data := dataOf(r, ai, n)
				if e := gs1.Verify(api.Element{AI: ai, Data: data}); e != api.OK {
					t.Errorf("Verify(%q, %q) = %d", ai, data, e)
				}
			}
		}
		checkVerify(t, ai, strings.Repeat("1", 100000))
	}
}

// TestVerifyBytes checks P14.1 for all application identifiers and all bytes, at the first, the last and another place.
func TestVerifyBytes(t *testing.T) {
	r := newRand()
	for _, ai := range identifiers {
		data := dataOf(r, ai, forms[ai].most)
		for _, i := range []int{0, r.IntN(len(data)), len(data) - 1} {
			for b := range 256 {
				checkVerify(t, ai, data[:i]+string([]byte{byte(b)})+data[i+1:])
			}
		}
	}
}

// TestVerifyDates checks P14.1 for all years with all months and days, and with others.
func TestVerifyDates(t *testing.T) {
	for year := range 100 {
		for month := range 15 {
			for day := range 34 {
				checkVerify(t, "11", fmt.Sprintf("%02d%02d%02d", year, month, day))
			}
		}
	}
	for _, ai := range []string{"11", "12", "13", "15", "16", "17"} {
		for _, c := range []struct {
			data string
			want api.Errno
		}{
			{"230229", api.ErrForm}, {"240229", api.OK}, {"230200", api.OK}, {"000229", api.OK}, {"990229", api.ErrForm}, {"960229", api.OK},
			{"240230", api.ErrForm}, {"230431", api.ErrForm}, {"230430", api.OK}, {"231231", api.OK}, {"231232", api.ErrForm},
			{"230001", api.ErrForm}, {"230000", api.ErrForm}, {"231300", api.ErrForm}, {"231300x", api.ErrLength}, {"23130x", api.ErrChar},
			{"239999", api.ErrForm}, {"23010", api.ErrLength}, {"", api.ErrLength}, {"  0101", api.ErrChar}, {"+10101", api.ErrChar},
		} {
			if got := gs1.Verify(api.Element{AI: ai, Data: c.data}); got != c.want {
				t.Errorf("Verify(%q, %q) = %d, want %d", ai, c.data, got, c.want)
			}
		}
	}
}

// TestVerifyErrors checks P14.1 for the order of the errors.
func TestVerifyErrors(t *testing.T) {
	for _, c := range []struct {
		ai, data string
		want     api.Errno
	}{
		{"01", "09501101530003", api.OK},
		{"01", "09501101530004", api.ErrCheck},
		{"01", "0950110153000X", api.ErrChar},
		{"01", "095011015300X", api.ErrLength},
		{"01", "", api.ErrLength},
		{"03", "", api.ErrNone},
		{"", "09501101530003", api.ErrNone},
		{"1", "0AB", api.ErrNone},
		{"010", "09501101530003", api.ErrNone},
		{"10", "", api.ErrLength},
		{"10", "A", api.OK},
		{"10", "A B", api.ErrChar},
		{"10", "A\x80", api.ErrChar},
		{"10", "ABCDEFGHIJKLMNOPQRST", api.OK},
		{"10", "ABCDEFGHIJKLMNOPQRSTU", api.ErrLength},
		{"10", "ABCDEFGHIJKLMNOPQRST ", api.ErrLength},
		{"10", characters[62:], api.OK},
		{"20", "7", api.ErrLength},
		{"20", "07", api.OK},
		{"20", "0A", api.ErrChar},
		{"30", "12345678", api.OK},
		{"30", "123456789", api.ErrLength},
		{"30", "A", api.ErrChar},
		{"00", "000000000000000000", api.OK},
		{"00", "000000000000000001", api.ErrCheck},
		{"410", "5901234123457", api.OK},
		{"410", "5901234123456", api.ErrCheck},
		{"3103", "001250", api.OK},
		{"3103", "00125A", api.ErrChar},
		{"99", strings.Repeat("_", 90), api.OK},
		{"99", strings.Repeat("_", 91), api.ErrLength},
	} {
		if got := gs1.Verify(api.Element{AI: c.ai, Data: c.data}); got != c.want {
			t.Errorf("Verify(%q, %q) = %d, want %d", c.ai, c.data, got, c.want)
		}
		checkVerify(t, c.ai, c.data)
	}
}

// TestDetection checks P14.6: data with a check digit of which one digit is changed have a wrong one.
func TestDetection(t *testing.T) {
	r := newRand()
	for _, ai := range identifiers {
		if !forms[ai].check {
			continue
		}
		for range 20 {
			data := dataOf(r, ai, forms[ai].most)
			for i := range data {
				for digit := byte('0'); digit <= '9'; digit++ {
					x := api.Element{AI: ai, Data: data[:i] + string(rune(digit)) + data[i+1:]}
					want := api.ErrCheck
					if digit == data[i] {
						want = api.OK
					}
					if got := gs1.Verify(x); got != want {
						t.Fatalf("Verify(%v) = %d, want %d, from %q", x, got, want, data)
					}
				}
			}
		}
	}
}
