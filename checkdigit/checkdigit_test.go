package checkdigit_test

import (
	"strings"
	"testing"

	"barscan/api"
	"barscan/checkdigit"
)

// TestSize checks P9.1.
func TestSize(t *testing.T) {
	for _, k := range systems {
		if n, e := checkdigit.Size(k); n != checkSize(k) || e != api.OK {
			t.Errorf("Size(%d): %d, %d", k, n, e)
		}
	}
	for _, k := range noSystems {
		if n, e := checkdigit.Size(k); n != 0 || e != api.ErrArg {
			t.Errorf("Size(%d): %d, %d", k, n, e)
		}
	}
}

// published are data with check characters that are published, in the chapter or elsewhere.
var published = []struct {
	k           api.CheckOp
	data, check string
}{
	{api.CheckGS1, "590123412345", "7"}, {api.CheckGS1, "0950110153000", "3"}, {api.CheckGS1, "400638133393", "1"}, {api.CheckGS1, "7351353", "7"}, {api.CheckGS1, "03600029145", "2"}, {api.CheckGS1, "0", "0"}, {api.CheckGS1, "1", "7"},
	{api.CheckLuhn, "7992739871", "3"}, {api.CheckLuhn, "1789372997", "4"}, {api.CheckLuhn, "411111111111111", "1"}, {api.CheckLuhn, "5", "9"}, {api.CheckLuhn, "0", "0"}, {api.CheckLuhn, "9", "1"},
	{api.CheckISBN, "030640615", "2"}, {api.CheckISBN, "080442957", "X"}, {api.CheckISBN, "020161622", "X"}, {api.CheckISBN, "000000000", "0"}, {api.CheckISBN, "158488540", "8"},
	{api.CheckVerhoeff, "236", "3"}, {api.CheckVerhoeff, "12345", "1"}, {api.CheckVerhoeff, "142857", "0"}, {api.CheckVerhoeff, "123456789012", "0"}, {api.CheckVerhoeff, "8473643095483728456789", "2"},
	{api.CheckDamm, "572", "4"}, {api.CheckDamm, "11294", "6"}, {api.CheckDamm, "0", "0"}, {api.CheckDamm, "1", "3"},
	{api.CheckISO97, "123", "20"}, {api.CheckISO97, "794", "44"}, {api.CheckISO97, "0", "98"}, {api.CheckISO97, "96", "04"}, {api.CheckISO97, "97", "98"}, {api.CheckISO97, "32", "02"},
	{api.CheckCode39, "CODE39", "W"}, {api.CheckCode39, "0", "0"}, {api.CheckCode39, "%", "%"}, {api.CheckCode39, " ", " "}, {api.CheckCode39, "%1", "0"}, {api.CheckCode39, "Z3", " "}, {api.CheckCode39, "-. $/+%", "F"}, {api.CheckCode39, "AZ", "2"},
	{api.CheckISO11, "000000021825009", "7"}, {api.CheckISO11, "000000021694233", "X"}, {api.CheckISO11, "0794", "0"}, {api.CheckISO11, "0", "1"}, {api.CheckISO11, "1", "X"},
}

// TestPublished checks P9.1 and P9.2 with published values.
func TestPublished(t *testing.T) {
	for _, x := range published {
		if s, e := checkdigit.Compute(x.k, x.data); s != x.check || e != api.OK {
			t.Errorf("Compute(%d, %q): %q, %d; want %q", x.k, x.data, s, e, x.check)
		}
		if s, e := checkdigit.Append(x.k, x.data); s != x.data+x.check || e != api.OK {
			t.Errorf("Append(%d, %q): %q, %d", x.k, x.data, s, e)
		}
		if e := checkdigit.Verify(x.k, x.data+x.check); e != api.OK {
			t.Errorf("Verify(%d, %q): %d", x.k, x.data+x.check, e)
		}
	}
}

// TestCompute checks P9.1 against the equations of whole texts.
func TestCompute(t *testing.T) {
	r := newRand()
	for _, k := range systems {
		data := fewData(k)
		for n := 1; n <= 100; n++ {
			data = append(data, randomData(r, k, n))
		}
		data = append(data, randomData(r, k, 1000), randomData(r, k, api.MaxText))
		for _, s := range data {
			want := expected(t, k, s)
			if c, e := checkdigit.Compute(k, s); c != want || e != api.OK {
				t.Errorf("Compute(%d, %q): %q, %d; want %q", k, s, c, e, want)
			}
		}
	}
}

// foreign returns characters that are not data of a system, alone and in texts.
func foreign(k api.CheckOp) []string {
	set := dataSet(k)
	list := []string{"1é3", "12345678é", "\x00", "12\xff", "12３"}
	for _, c := range []byte(allBytes()) {
		if strings.IndexByte(set, c) < 0 {
			one := string([]byte{c})
			list = append(list, one, one+"12345678", "12345678"+one, "1234"+one+"5678")
		}
	}
	return list
}

// TestComputeErrors checks the errors of P9.1, and their order.
func TestComputeErrors(t *testing.T) {
	type test struct {
		k    api.CheckOp
		s    string
		want api.Errno
	}
	var tests []test
	for _, k := range noSystems {
		tests = append(tests, test{k, "", api.ErrArg}, test{k, "123456789", api.ErrArg}, test{k, "x", api.ErrArg}, test{k, strings.Repeat("1", api.MaxText+1), api.ErrArg})
	}
	for _, k := range systems {
		long := strings.Repeat("1", api.MaxText+1)
		tests = append(tests, test{k, "", api.ErrEmpty}, test{k, long, api.ErrLong}, test{k, long[1:] + "x", api.ErrLong})
		for _, s := range foreign(k) {
			tests = append(tests, test{k, s, api.ErrChar})
		}
		tests = append(tests, test{k, long[2:] + "x", api.ErrChar})
	}
	for n := range 21 {
		if n != 0 && n != 9 {
			tests = append(tests, test{api.CheckISBN, strings.Repeat("1", n), api.ErrLength}, test{api.CheckISBN, strings.Repeat("1", n) + "X", api.ErrChar})
		}
	}
	tests = append(tests, test{api.CheckISBN, strings.Repeat("1", api.MaxText), api.ErrLength}, test{api.CheckISBN, "12345678X", api.ErrChar}, test{api.CheckISBN, "0306406152", api.ErrLength})
	for _, x := range tests {
		if c, e := checkdigit.Compute(x.k, x.s); c != "" || e != x.want {
			t.Errorf("Compute(%d, %q): %q, %d; want %d", x.k, x.s, c, e, x.want)
		}
		if s, e := checkdigit.Append(x.k, x.s); s != "" || e != x.want {
			t.Errorf("Append(%d, %q): %q, %d; want %d", x.k, x.s, s, e, x.want)
		}
	}
}

// TestAppendLimit checks the limit of P9.1.
func TestAppendLimit(t *testing.T) {
	for _, k := range systems {
		if k == api.CheckISBN {
			continue
		}
		for n := api.MaxText - 3; n <= api.MaxText; n++ {
			data := strings.Repeat("7", n)
			check, e := checkdigit.Compute(k, data)
			if e != api.OK {
				t.Fatalf("Compute(%d) of %d digits: %d", k, n, e)
			}
			s, e := checkdigit.Append(k, data)
			if n+checkSize(k) > api.MaxText {
				if s != "" || e != api.ErrLong {
					t.Errorf("Append(%d) of %d digits: %d characters, %d", k, n, len(s), e)
				}
			} else if s != data+check || e != api.OK {
				t.Errorf("Append(%d) of %d digits: %d characters, %d", k, n, len(s), e)
			}
		}
	}
}

// TestVerify checks P9.2 against the equations of whole texts, for all check characters.
func TestVerify(t *testing.T) {
	r := newRand()
	for _, k := range systems {
		data := fewData(k)
		if len(data) > 300 {
			data = data[:300]
		}
		data = append(data, randomData(r, k, 50), randomData(r, k, api.MaxText-checkSize(k)))
		for _, s := range data {
			want := expected(t, k, s)
			for _, check := range allChecks(k) {
				wanted := api.ErrCheck
				if check == want {
					wanted = api.OK
				}
				if e := checkdigit.Verify(k, s+check); e != wanted {
					t.Errorf("Verify(%d, %q): %d; want %d", k, s+check, e, wanted)
				}
			}
		}
	}
}

// allChecks returns all texts of as many characters as the system has check characters, each of which can be one.
func allChecks(k api.CheckOp) []string {
	list := []string{""}
	for range checkSize(k) {
		var longer []string
		for _, s := range list {
			for _, c := range strings.Split(checkSet(k), "") {
				longer = append(longer, s+c)
			}
		}
		list = longer
	}
	return list
}

// TestVerifyErrors checks the errors of P9.2, and their order.
func TestVerifyErrors(t *testing.T) {
	type test struct {
		k    api.CheckOp
		s    string
		want api.Errno
	}
	long := strings.Repeat("0", api.MaxText)
	tests := []test{
		{api.CheckISO97, "", api.ErrLength}, {api.CheckISO97, "12", api.ErrLength}, {api.CheckISO97, "x", api.ErrLength}, {api.CheckISO97, "xx", api.ErrLength}, {api.CheckISO97, "12320", api.OK},
		{api.CheckISO97, "x98", api.ErrChar}, {api.CheckISO97, "0x8", api.ErrChar}, {api.CheckISO97, "09x", api.ErrChar}, {api.CheckISO97, "09X", api.ErrChar},
		{api.CheckISO97, "3202", api.OK}, {api.CheckISO97, "3299", api.ErrCheck}, {api.CheckISO97, "098", api.OK}, {api.CheckISO97, "001", api.ErrCheck}, {api.CheckISO97, "000", api.ErrCheck},
		{api.CheckISBN, "080442957X", api.OK}, {api.CheckISBN, "080442957x", api.ErrChar}, {api.CheckISBN, "08044295X7", api.ErrChar}, {api.CheckISBN, "X804429570", api.ErrChar}, {api.CheckISBN, "0804429570", api.ErrCheck}, {api.CheckISBN, "030640615X", api.ErrCheck},
		{api.CheckISO11, "1X", api.OK}, {api.CheckISO11, "1x", api.ErrChar}, {api.CheckISO11, "X1", api.ErrChar}, {api.CheckISO11, "XX", api.ErrChar}, {api.CheckISO11, "0X", api.ErrCheck}, {api.CheckISO11, "X", api.ErrLength},
		{api.CheckGS1, "5901234123457", api.OK}, {api.CheckGS1, "590123412345X", api.ErrChar}, {api.CheckGS1, "5901234123450", api.ErrCheck},
		{api.CheckCode39, "CODE39W", api.OK}, {api.CheckCode39, "CODE39w", api.ErrChar}, {api.CheckCode39, "cODE39W", api.ErrChar}, {api.CheckCode39, "CODE39*", api.ErrChar}, {api.CheckCode39, "*CODE39W*", api.ErrChar}, {api.CheckCode39, "CODE39 ", api.ErrCheck},
	}
	for _, k := range noSystems {
		tests = append(tests, test{k, "", api.ErrArg}, test{k, "5901234123457", api.ErrArg}, test{k, "0306406152", api.ErrArg}, test{k, long + "0", api.ErrArg}, test{k, "x", api.ErrArg})
	}
	for _, k := range systems {
		tests = append(tests, test{k, long + "0", api.ErrLong}, test{k, long + "x", api.ErrLong}, test{k, "", api.ErrLength}, test{k, "0", api.ErrLength}, test{k, "*", api.ErrLength}, test{k, "\xff", api.ErrLength})
		if k == api.CheckISBN {
			tests = append(tests, test{k, long, api.ErrLength}, test{k, "123456789", api.ErrLength}, test{k, "030640615X2", api.ErrLength}, test{k, "12345678*", api.ErrLength}, test{k, "1234567890*", api.ErrLength})
			continue
		}
		tests = append(tests, test{k, long[1:] + "*", api.ErrChar}, test{k, "*" + long[1:], api.ErrChar})
	}
	for _, x := range tests {
		if e := checkdigit.Verify(x.k, x.s); e != x.want {
			t.Errorf("Verify(%d, %q): %d; want %d", x.k, x.s, e, x.want)
		}
	}
}

// TestVerifyCharacters checks the error ErrChar of P9.2 for each character at each place.
func TestVerifyCharacters(t *testing.T) {
	for _, k := range systems {
		text := appended(t, k, "123456789")
		data := len(text) - checkSize(k)
		for i := range len(text) {
			set := dataSet(k)
			if i >= data {
				set = checkSet(k)
			}
			for _, c := range []byte(allBytes()) {
				s := text[:i] + string([]byte{c}) + text[i+1:]
				want := api.ErrCheck
				if s == text {
					want = api.OK
				} else if strings.IndexByte(set, c) < 0 {
					want = api.ErrChar
				}
				if e := checkdigit.Verify(k, s); e != want {
					t.Errorf("Verify(%d, %q): %d; want %d", k, s, e, want)
				}
			}
		}
	}
}
