package ean_test

import (
	"fmt"
	"strings"
	"testing"

	"barscan/api"
	"barscan/ean"
)

// TestTextsExamples checks P11.3 for the examples of the chapter and published texts.
func TestTextsExamples(t *testing.T) {
	for _, c := range []struct {
		kind       api.SymOp
		text, want string
	}{
		{api.EAN8, "9638507", "96385074"},
		{api.EAN8, "96385074", "96385074"},
		{api.EAN13, "590123412345", "5901234123457"},
		{api.EAN13, "978030640615", "9780306406157"},
		{api.UPCA, "03600029145", "036000291452"},
		{api.UPCE, "0425261", "04252614"},
		{api.UPCE, "04252614", "04252614"},
		{api.UPCE, "0123456", "01234565"},
	} {
		if got, e := ean.Complete(c.kind, c.text); e != api.OK || got != c.want {
			t.Errorf("Complete(%d, %q) = %q, %d, want %q", c.kind, c.text, got, e, c.want)
		}
	}
	for _, c := range [][2]string{
		{"04252614", "042100005264"},
		{"01234565", "012345000065"},
		{"06543217", "065100004327"},
		{"00000000", "000000000000"},
	} {
		if got, e := ean.Expand(c[0]); e != api.OK || got != c[1] {
			t.Errorf("Expand(%q) = %q, %d, want %q", c[0], got, e, c[1])
		}
		if got, e := ean.Compress(c[1]); e != api.OK || got != c[0] {
			t.Errorf("Compress(%q) = %q, %d, want %q", c[1], got, e, c[0])
		}
	}
}

// TestComplete checks P11.3 for many texts with and without their check digits.
func TestComplete(t *testing.T) {
	r := newRand()
	for _, kind := range kinds {
		for range 2000 {
			want := randomText(r, kind)
			for _, text := range []string{want, want[:len(want)-1]} {
				if got, e := ean.Complete(kind, text); e != api.OK || got != want {
					t.Fatalf("Complete(%d, %q) = %q, %d, want %q", kind, text, got, e, want)
				}
			}
		}
	}
}

// TestCompleteErrors checks P11.3 for invalid arguments, and the order of the errors.
func TestCompleteErrors(t *testing.T) {
	for _, kind := range notKinds {
		if got, e := ean.Complete(kind, "x"); e != api.ErrArg || got != "" {
			t.Errorf("Complete with the kind %d: %q, %d", kind, got, e)
		}
	}
	for _, c := range []struct {
		kind api.SymOp
		text string
		want api.Errno
	}{
		{api.EAN13, "x", api.ErrChar},
		{api.EAN13, "59012341234/", api.ErrChar},
		{api.EAN13, "59012341234:", api.ErrChar},
		{api.UPCE, "2 ", api.ErrChar},
		{api.UPCE, "é", api.ErrChar},
		{api.UPCE, "", api.ErrLength},
		{api.UPCE, "2", api.ErrLength},
		{api.UPCE, "042526", api.ErrLength},
		{api.UPCE, "242526", api.ErrLength},
		{api.UPCE, "042526144", api.ErrLength},
		{api.EAN8, "963850", api.ErrLength},
		{api.EAN8, "963850744", api.ErrLength},
		{api.UPCA, "0360002914", api.ErrLength},
		{api.UPCA, "0360002914522", api.ErrLength},
		{api.EAN13, "59012341234", api.ErrLength},
		{api.EAN13, "59012341234577", api.ErrLength},
		{api.UPCE, "2425261", api.ErrForm},
		{api.UPCE, "24252614", api.ErrForm},
		{api.UPCE, "9000000", api.ErrForm},
		{api.UPCE, "04252613", api.ErrCheck},
		{api.UPCA, "036000291450", api.ErrCheck},
		{api.EAN8, "96385073", api.ErrCheck},
		{api.EAN13, "5901234123456", api.ErrCheck},
	} {
		if got, e := ean.Complete(c.kind, c.text); e != c.want || got != "" {
			t.Errorf("Complete(%d, %q) = %q, %d, want %d", c.kind, c.text, got, e, c.want)
		}
	}
}

// TestExpand checks P11.3 for texts with all digits f and both number systems.
func TestExpand(t *testing.T) {
	for n := range 100000 {
		text := fmt.Sprintf("%d%06d", n%2, n*10+n%7)
		text += checkOf(api.UPCE, text)
		if got, e := ean.Expand(text); e != api.OK || got != expansion(text) {
			t.Fatalf("Expand(%q) = %q, %d, want %q", text, got, e, expansion(text))
		}
	}
}

// TestExpandErrors checks P11.3 for texts that cannot be expanded, and the order of the errors.
func TestExpandErrors(t *testing.T) {
	for _, c := range []struct {
		text string
		want api.Errno
	}{
		{"x", api.ErrChar},
		{"2425261x", api.ErrChar},
		{"04252614\n", api.ErrChar},
		{"", api.ErrLength},
		{"2", api.ErrLength},
		{"0425261", api.ErrLength},
		{"2425261", api.ErrLength},
		{"042526144", api.ErrLength},
		{"24252614", api.ErrForm},
		{"34252610", api.ErrForm},
		{"94252610", api.ErrForm},
		{"04252610", api.ErrCheck},
		{"14252614", api.ErrCheck},
	} {
		if got, e := ean.Expand(c.text); e != c.want || got != "" {
			t.Errorf("Expand(%q) = %q, %d, want %d", c.text, got, e, c.want)
		}
	}
}

// compressible returns UPC-A texts of which many can be compressed: each digit is 0 or one of a few others.
func compressible() []string {
	r := newRand()
	var list []string
	for _, rule := range rules {
		for range 20000 {
			text := ""
			for _, c := range rule.upca[:11] {
				if c == '0' && r.IntN(100) > 0 {
					text += "0"
				} else {
					text += string(rune('0' + r.IntN(10)*r.IntN(2)))
				}
			}
			if r.IntN(2) == 0 {
				text = string(rune('0'+r.IntN(2))) + text[1:]
			}
			list = append(list, text+checkOf(api.UPCA, text))
		}
	}
	return list
}

// TestCompress checks P11.3 for texts that fit one rule, several rules, or none, and P11.5.
func TestCompress(t *testing.T) {
	fit := 0
	for _, text := range compressible() {
		want, fault := compression(text), api.OK
		if want == "" {
			fault = api.ErrForm
		}
		got, e := ean.Compress(text)
		if e != fault || got != want {
			t.Fatalf("Compress(%q) = %q, %d, want %q, %d", text, got, e, want, fault)
		}
		if e != api.OK {
			continue
		}
		fit++
		back, e := ean.Expand(got)
		if e != api.OK || back != text || back[11:] != got[7:] {
			t.Fatalf("Expand(Compress(%q)) = %q, %d", text, back, e)
		}
	}
	if fit < 10000 {
		t.Errorf("only %d texts could be compressed", fit)
	}
}

// TestCompressFirstRule checks P11.3 for texts to which several texts expand.
func TestCompressFirstRule(t *testing.T) {
	for _, c := range [][2]string{
		{"01200000003", "0120030"}, // also 0120033, 0120004 and so on
		{"01230000004", "0123043"},
		{"01234000005", "0123454"},
		{"01234500005", "0123455"},
		{"00000000000", "0000000"},
	} {
		upca, upce := c[0]+checkOf(api.UPCA, c[0]), c[1]
		upce += upca[11:]
		if got, e := ean.Compress(upca); e != api.OK || got != upce {
			t.Errorf("Compress(%q) = %q, %d, want %q", upca, got, e, upce)
		}
	}
}

// TestCompressErrors checks P11.3 for texts that cannot be compressed, and the order of the errors.
func TestCompressErrors(t *testing.T) {
	for _, c := range []struct {
		text string
		want api.Errno
	}{
		{"x", api.ErrChar},
		{"04210000526x", api.ErrChar},
		{"042100005264 ", api.ErrChar},
		{"", api.ErrLength},
		{"04210000526", api.ErrLength},
		{"0421000052644", api.ErrLength},
		{strings.Repeat("1", 100), api.ErrLength},
		{"042100005263", api.ErrCheck},
		{"242100005260", api.ErrCheck},
		{"036000291453", api.ErrCheck},
		{"036000291452", api.ErrForm},
	} {
		if got, e := ean.Compress(c.text); e != c.want || got != "" {
			t.Errorf("Compress(%q) = %q, %d, want %d", c.text, got, e, c.want)
		}
	}
	for system := '2'; system <= '9'; system++ {
		text := string(system) + "4210000526"
		text += checkOf(api.UPCA, text)
		if got, e := ean.Compress(text); e != api.ErrForm || got != "" {
			t.Errorf("Compress(%q) = %q, %d, want %d", text, got, e, api.ErrForm)
		}
	}
}
