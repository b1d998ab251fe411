package checkdigit_test

import (
	"fmt"
	"math"
	"math/big"
	"math/rand/v2"
	"slices"
	"strings"
	"testing"

	"barscan/api"
	"barscan/checkdigit"
)

// systems are all systems.
var systems = []api.CheckOp{api.CheckGS1, api.CheckLuhn, api.CheckISBN, api.CheckVerhoeff, api.CheckDamm, api.CheckISO97, api.CheckCode39, api.CheckISO11}

// noSystems are numbers that are not systems.
var noSystems = []api.CheckOp{0, -1, 9, 10, 100, 256 + 1, math.MaxInt, math.MinInt}

const (
	digits    = "0123456789"
	code39Set = "0123456789ABCDEFGHIJKLMNOPQRSTUVWXYZ-. $/+%"
)

// dataSet returns the characters of the data of a system.
func dataSet(k api.CheckOp) string {
	if k == api.CheckCode39 {
		return code39Set
	}
	return digits
}

// checkSet returns the characters that can be check characters of a system.
func checkSet(k api.CheckOp) string {
	switch k {
	case api.CheckISBN, api.CheckISO11:
		return digits + "X"
	case api.CheckCode39:
		return code39Set
	}
	return digits
}

// checkSize returns the number of check characters of a system.
func checkSize(k api.CheckOp) int {
	if k == api.CheckISO97 {
		return 2
	}
	return 1
}

func newRand() *rand.Rand {
	return rand.New(rand.NewPCG(9, 10))
}

// randomText returns n characters of an alphabet.
func randomText(r *rand.Rand, alphabet string, n int) string {
	var b strings.Builder
	for range n {
		b.WriteByte(alphabet[r.IntN(len(alphabet))])
	}
	return b.String()
}

// randomData returns data of a system, with n characters if it does not ask for another number.
func randomData(r *rand.Rand, k api.CheckOp, n int) string {
	if k == api.CheckISBN {
		n = 9
	}
	return randomText(r, dataSet(k), n)
}

// fewData returns short data of a system: all of them if there are not too many.
func fewData(k api.CheckOp) []string {
	r := newRand()
	var list []string
	switch k {
	case api.CheckISBN:
		for range 100 {
			list = append(list, randomData(r, k, 9))
		}
	case api.CheckCode39:
		for n := 1; n < 6; n++ {
			for range 20 {
				list = append(list, randomData(r, k, n))
			}
		}
	default:
		for n := range 1110 {
			list = append(list, fmt.Sprint(n), fmt.Sprintf("%03d", n), fmt.Sprintf("%07d", n*9001))
		}
	}
	return list
}

// appended returns data followed by their check characters.
func appended(t *testing.T, k api.CheckOp, data string) string {
	t.Helper()
	s, e := checkdigit.Append(k, data)
	if e != api.OK {
		t.Fatalf("Append(%d, %q): %d", k, data, e)
	}
	return s
}

// isAccepted returns whether Verify accepts s.
func isAccepted(k api.CheckOp, s string) bool {
	return checkdigit.Verify(k, s) == api.OK
}

// changed returns the strings that differ from s in one character of an alphabet.
func changed(s, alphabet string) []string {
	var list []string
	for i := range len(s) {
		for _, c := range []byte(alphabet) {
			b := []byte(s)
			b[i] = c
			if string(b) != s {
				list = append(list, string(b))
			}
		}
	}
	return list
}

// exchanged returns the strings in which two different neighbouring characters of s are exchanged.
func exchanged(s string) []string {
	var list []string
	for i := 1; i < len(s); i++ {
		b := []byte(s)
		b[i-1], b[i] = b[i], b[i-1]
		if string(b) != s {
			list = append(list, string(b))
		}
	}
	return list
}

// allBytes returns a string of all bytes.
func allBytes() string {
	var b []byte
	for c := range 256 {
		b = append(b, byte(c))
	}
	return string(b)
}

// verhoeffTable is the table of the operation of Verhoeff as it was published, and verhoeffPowers that of the powers of the permutation.
var (
	verhoeffTable  = []string{"0123456789", "1234067895", "2340178956", "3401289567", "4012395678", "5987604321", "6598710432", "7659821043", "8765932104", "9876543210"}
	verhoeffPowers = []string{"0123456789", "1576283094", "5803796142", "8916043527", "9453126870", "4286573901", "2793806415", "7046913258"}
	dammTable      = []string{"0317598642", "7092154863", "4206871359", "1750983426", "6123045978", "3674209581", "5869720134", "8945362017", "9438617205", "2581436790"}
)

// obeys returns whether a text with its check characters obeys the equation of its system. The equations are those of whole texts, not those of the computation of check characters.
func obeys(k api.CheckOp, s string) bool {
	sum, last := 0, len(s)-1
	switch k {
	case api.CheckGS1:
		for i, c := range []byte(s) {
			sum += int(c-'0') * []int{1, 3}[(last-i)%2]
		}
		return sum%10 == 0
	case api.CheckLuhn:
		for i, c := range []byte(s) {
			sum += strings.IndexByte([]string{"0123456789", "0516273849"}[(last-i)%2], c)
		}
		return sum%10 == 0
	case api.CheckISBN:
		for i, c := range []byte(s) {
			sum += strings.IndexByte("0123456789X", c) * (10 - i)
		}
		return sum%11 == 0
	case api.CheckVerhoeff:
		for i := range len(s) {
			p := verhoeffPowers[i%8][s[last-i]-'0']
			sum = int(verhoeffTable[sum][p-'0'] - '0')
		}
		return sum == 0
	case api.CheckDamm:
		for _, c := range []byte(s) {
			sum = int(dammTable[sum][c-'0'] - '0')
		}
		return sum == 0
	case api.CheckISO97:
		n, _ := new(big.Int).SetString(s, 10)
		return n.Mod(n, big.NewInt(97)).Int64() == 1
	case api.CheckCode39:
		for i, c := range []byte(s) {
			sum += strings.IndexByte(code39Set, c) * []int{1, 42}[i/last]
		}
		return sum%43 == 0
	}
	for i, c := range []byte(s) {
		power := new(big.Int).Exp(big.NewInt(2), big.NewInt(int64(last-i)), big.NewInt(11))
		sum += strings.IndexByte("0123456789X", c) * int(power.Int64())
	}
	return sum%11 == 1
}

// possibleChecks returns all check characters of a system, without those that are not a result of the formula of CheckISO97.
func possibleChecks(k api.CheckOp) []string {
	if k == api.CheckISO97 {
		var list []string
		for n := 2; n <= 98; n++ {
			list = append(list, fmt.Sprintf("%02d", n))
		}
		return list
	}
	return strings.Split(checkSet(k), "")
}

// expected returns the only check characters with which data obey the equation of the system.
func expected(t *testing.T, k api.CheckOp, data string) string {
	t.Helper()
	list := slices.DeleteFunc(possibleChecks(k), func(c string) bool { return !obeys(k, data+c) })
	if len(list) != 1 {
		t.Fatalf("%d check characters of system %d for %q", len(list), k, data)
	}
	return list[0]
}
