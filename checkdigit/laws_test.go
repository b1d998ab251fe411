package checkdigit_test

import (
	"slices"
	"testing"

	"barscan/api"
	"barscan/checkdigit"
)

// TestAcceptance checks P9.5.
func TestAcceptance(t *testing.T) {
	r := newRand()
	for _, k := range systems {
		for n := 1; n < 40; n++ {
			data := randomData(r, k, n)
			text := appended(t, k, data)
			for _, check := range allChecks(k) {
				if accepted := isAccepted(k, data+check); accepted != (data+check == text) {
					t.Errorf("Verify(%d, %q) accepts: %t, but Append returns %q", k, data+check, accepted, text)
				}
			}
		}
	}
}

// isExchangeMissed returns whether a system need not detect the exchange of two characters.
func isExchangeMissed(k api.CheckOp, a, b byte) bool {
	switch k {
	case api.CheckCode39:
		return true
	case api.CheckLuhn:
		return min(a, b) == '0' && max(a, b) == '9'
	case api.CheckGS1:
		return max(a, b)-min(a, b) == 5
	}
	return false
}

// checkDetection checks that one error in an accepted text is detected.
func checkDetection(t *testing.T, k api.CheckOp, text string) {
	t.Helper()
	for _, s := range changed(text, checkSet(k)+"x*\x00é") {
		if isAccepted(k, s) {
			t.Errorf("system %d accepts %q and %q", k, text, s)
		}
	}
	for i := 1; i < len(text); i++ {
		a, b := text[i-1], text[i]
		s := text[:i-1] + text[i:i+1] + text[i-1:i] + text[i+1:]
		if a != b && isAccepted(k, s) && !isExchangeMissed(k, a, b) {
			t.Errorf("system %d accepts %q and %q", k, text, s)
		}
	}
}

// TestDetection checks P9.6.
func TestDetection(t *testing.T) {
	r := newRand()
	for _, k := range systems {
		for _, data := range fewData(k) {
			checkDetection(t, k, appended(t, k, data))
		}
		for n := 8; n < 30; n++ {
			checkDetection(t, k, appended(t, k, randomData(r, k, n)))
		}
	}
}

// TestRestoration checks P9.7.
func TestRestoration(t *testing.T) {
	r := newRand()
	for _, k := range systems {
		for _, n := range []int{1, 2, 3, 9, 20, 64 - checkSize(k)} {
			text := appended(t, k, randomData(r, k, n))
			damaged := append(changed(text, "07X%\x80"), exchanged(text)...)
			for _, s := range damaged {
				list, e := checkdigit.Corrections(k, s)
				if !slices.Contains(list, text) || slices.Contains(list, s) || !slices.IsSorted(list) || e != api.OK {
					t.Errorf("Corrections(%d, %q): %q, %d; want %q", k, s, list, e, text)
				}
			}
		}
	}
}

// TestSums checks P9.8.
func TestSums(t *testing.T) {
	r := newRand()
	for i := range 6000 {
		text := randomText(r, digits, 2+i%20)
		checkSum(t, api.CheckGS1, text, []int{1, 3}, 10, 0)
		checkSum(t, api.CheckISO11, text, []int{1, 2, 4, 8, 5, 10, 9, 7, 3, 6}, 11, 1)
		checkSum(t, api.CheckISBN, randomText(r, digits, 10), []int{1, 2, 3, 4, 5, 6, 7, 8, 9, 10}, 11, 0)
	}
}

// checkSum checks that Verify accepts a text exactly if its weighted sum is the wanted one.
func checkSum(t *testing.T, k api.CheckOp, text string, weights []int, m, want int) {
	t.Helper()
	n, e := checkdigit.Weighted(text, weights, m)
	if e != api.OK {
		t.Fatalf("Weighted(%q, %v, %d): %d", text, weights, m, e)
	}
	if isAccepted(k, text) != (n == want) {
		t.Errorf("Verify(%d, %q): %t, but the sum is %d", k, text, isAccepted(k, text), n)
	}
}
