package checkdigit_test

import (
	"slices"
	"strings"
	"testing"

	"barscan/api"
	"barscan/checkdigit"
)

// correctionsByDefinition tries all bytes at all places, and all exchanges.
func correctionsByDefinition(k api.CheckOp, s string) []string {
	list := append(changed(s, allBytes()), exchanged(s)...)
	list = slices.DeleteFunc(list, func(t string) bool { return !isAccepted(k, t) })
	slices.Sort(list)
	return list
}

// checkCorrections checks the corrections of s.
func checkCorrections(t *testing.T, k api.CheckOp, s string) []string {
	t.Helper()
	list, e := checkdigit.Corrections(k, s)
	if want := correctionsByDefinition(k, s); !slices.Equal(list, want) || e != api.OK {
		t.Errorf("Corrections(%d, %q): %q, %d; want %q", k, s, list, e, want)
	}
	return list
}

// TestCorrectionsExamples checks P9.4.
func TestCorrectionsExamples(t *testing.T) {
	if list := checkCorrections(t, api.CheckDamm, "5742"); !slices.Contains(list, "5724") {
		t.Errorf("the corrections of 5742: %q", list)
	}
	for _, x := range []struct {
		k    api.CheckOp
		s    string
		want []string
	}{
		{api.CheckGS1, "00", nil}, {api.CheckGS1, "01", []string{"00", "31"}}, {api.CheckGS1, "xx", nil}, {api.CheckGS1, "x7", []string{"17"}}, {api.CheckGS1, "1x", []string{"17"}}, {api.CheckGS1, "71", []string{"17", "31", "79"}},
		{api.CheckISBN, "X804429579", nil}, {api.CheckISBN, "08044295X7", []string{"0804429537", "080442957X"}}, {api.CheckISBN, "0306\xff06152", []string{"0306406152"}},
		{api.CheckISO97, "12302", []string{"12320", "12902", "32302"}}, {api.CheckCode39, "A B", nil}, {api.CheckISO11, "X1", []string{"01", "1X"}},
	} {
		if list := checkCorrections(t, x.k, x.s); x.want != nil && !slices.Equal(list, x.want) {
			t.Errorf("Corrections(%d, %q): %q; want %q", x.k, x.s, list, x.want)
		}
	}
}

// TestCorrections checks P9.4 for texts that are right, damaged and foreign.
func TestCorrections(t *testing.T) {
	r := newRand()
	for _, k := range systems {
		for n := range 12 {
			right := appended(t, k, randomData(r, k, 1+n))
			checkCorrections(t, k, right)
			all := changed(right, allBytes())
			once := all[r.IntN(len(all))]
			checkCorrections(t, k, once)
			few := changed(once, checkSet(k))
			checkCorrections(t, k, few[r.IntN(len(few))])
			for _, s := range exchanged(right) {
				checkCorrections(t, k, s)
			}
			checkCorrections(t, k, randomText(r, allBytes(), len(right)))
		}
	}
}

// TestCorrectionsErrors checks the errors of P9.4, and their order.
func TestCorrectionsErrors(t *testing.T) {
	type test struct {
		k    api.CheckOp
		s    string
		want api.Errno
	}
	long := strings.Repeat("0", 65)
	tests := []test{{api.CheckISO97, "12", api.ErrLength}, {api.CheckISO97, "\xff\xfe", api.ErrLength}, {api.CheckISO97, "123", api.OK}, {api.CheckISBN, long[1:], api.ErrLength}}
	for _, k := range noSystems {
		tests = append(tests, test{k, "", api.ErrArg}, test{k, "0306406152", api.ErrArg}, test{k, long, api.ErrArg})
	}
	for _, k := range systems {
		tests = append(tests, test{k, long, api.ErrLong}, test{k, long[1:] + "x", api.ErrLong}, test{k, strings.Repeat("0", 10000), api.ErrLong}, test{k, "", api.ErrLength}, test{k, "1", api.ErrLength}, test{k, "*", api.ErrLength})
		if k != api.CheckISBN {
			tests = append(tests, test{k, long[1:], api.OK}, test{k, strings.Repeat("*", 64), api.OK})
		}
	}
	for n := range 64 {
		if n != 10 {
			tests = append(tests, test{api.CheckISBN, long[:n], api.ErrLength})
		}
	}
	for _, x := range tests {
		if list, e := checkdigit.Corrections(x.k, x.s); e != x.want || e != api.OK && len(list) > 0 {
			t.Errorf("Corrections(%d, %q): %q, %d; want %d", x.k, x.s, list, e, x.want)
		}
	}
}
