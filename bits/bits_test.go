package bits_test

import (
	"math"
	"math/rand/v2"
	"slices"
	"strconv"
	"strings"
	"testing"

	"barscan/api"
	"barscan/bits"
)

// fromText returns the bits of a text of 0 and 1, independently of package bits.
func fromText(s string) []bool {
	var b []bool
	for _, c := range s {
		b = append(b, c == '1')
	}
	return b
}

// toText returns the text of bits, independently of package bits.
func toText(b []bool) string {
	var s strings.Builder
	for _, bit := range b {
		if bit {
			s.WriteByte('1')
		} else {
			s.WriteByte('0')
		}
	}
	return s.String()
}

// lowText returns the text of the n low bits of v.
func lowText(v, n int) string {
	s := strconv.FormatUint(uint64(v), 2)
	s = strings.Repeat("0", 64-len(s)) + s
	return s[64-n:]
}

// valueOf returns the number of a text of at most 62 bits.
func valueOf(s string) int {
	if s == "" {
		return 0
	}
	v, err := strconv.ParseInt(s, 2, 64)
	if err != nil {
		panic(err)
	}
	return int(v)
}

// randomBits returns n bits; equal seeds give equal bits.
func randomBits(r *rand.Rand, n int) []bool {
	b := make([]bool, n)
	for i := range b {
		b[i] = r.IntN(2) == 1
	}
	return b
}

func newRand() *rand.Rand {
	return rand.New(rand.NewPCG(1, 2))
}

var numbers = []int{0, 1, 2, 3, 5, 255, 256, 1<<31 - 1, 1 << 31, 1<<32 + 5, 1<<61 - 1, 1 << 61, 1<<62 - 1, 1 << 62, math.MaxInt, -1, -2, -5, -256, -1 << 31, -1 << 62, math.MinInt + 1, math.MinInt, 0x123456789abcdef, -0x123456789abcdef}

var badSizes = []int{-1, -2, -62, -64, 63, 64, 65, 128, 1 << 32, math.MaxInt, math.MinInt}

// TestAppend checks P1.1.
func TestAppend(t *testing.T) {
	for _, prefix := range []string{"", "0", "1", "10110", strings.Repeat("01", 50)} {
		for _, v := range numbers {
			for n := 0; n <= 62; n++ {
				b, e := bits.Append(fromText(prefix), v, n)
				if want := prefix + lowText(v, n); e != api.OK || toText(b) != want {
					t.Fatalf("Append(%s, %d, %d) = %s, %d; want %s", prefix, v, n, toText(b), e, want)
				}
			}
		}
	}
}

func TestAppendExamples(t *testing.T) {
	if b, e := bits.Append(nil, 5, 3); toText(b) != "101" || e != api.OK {
		t.Error(b, e)
	}
	if b, e := bits.Append(nil, -1, 2); toText(b) != "11" || e != api.OK {
		t.Error(b, e)
	}
}

func TestAppendErrors(t *testing.T) {
	for _, n := range badSizes {
		if b, e := bits.Append([]bool{true}, 1, n); len(b) != 0 || e != api.ErrRange {
			t.Errorf("n = %d: %v, %d", n, b, e)
		}
		if b, e := bits.Append(make([]bool, api.MaxBits+1), 1, n); len(b) != 0 || e != api.ErrRange {
			t.Errorf("n = %d behind too many bits: %d bits, %d", n, len(b), e)
		}
	}
}

func TestAppendLimit(t *testing.T) {
	for _, x := range []struct {
		length, n int
		want      api.Errno
	}{
		{api.MaxBits, 0, api.OK},
		{api.MaxBits, 1, api.ErrLong},
		{api.MaxBits - 1, 1, api.OK},
		{api.MaxBits - 1, 2, api.ErrLong},
		{api.MaxBits - 62, 62, api.OK},
		{api.MaxBits - 61, 62, api.ErrLong},
		{api.MaxBits + 1, 0, api.ErrLong},
	} {
		b, e := bits.Append(make([]bool, x.length), -1, x.n)
		if e != x.want {
			t.Errorf("%d bits and %d more: error %d, want %d", x.length, x.n, e, x.want)
		}
		length, weight := 0, 0
		if x.want == api.OK {
			length, weight = x.length+x.n, x.n
		}
		if len(b) != length || strings.Count(toText(b), "1") != weight {
			t.Errorf("%d bits and %d more: %d bits", x.length, x.n, len(b))
		}
	}
}

func TestAppendMemory(t *testing.T) {
	whole := fromText("10000000")
	for n := range 4 {
		b, _ := bits.Append(whole[:2], -1, n)
		if toText(whole) != "10000000" {
			t.Fatalf("n = %d: the argument has become %s", n, toText(whole))
		}
		want := toText(b)
		whole[0] = false
		if toText(b) != want {
			t.Errorf("n = %d: the result changes with the argument", n)
		}
		whole[0] = true
		for i := range b[:cap(b)] {
			b[:cap(b)][i] = true
		}
		if toText(whole) != "10000000" {
			t.Fatalf("n = %d: the argument changes with the result", n)
		}
	}
}

// TestTake checks P1.2.
func TestTake(t *testing.T) {
	s := toText(randomBits(newRand(), 130))
	b := fromText(s)
	for at := 0; at <= len(b); at++ {
		for n := 0; n <= 62; n++ {
			v, e := bits.Take(b, at, n)
			if at+n > len(b) {
				if v != 0 || e != api.ErrTruncated {
					t.Fatalf("Take at %d of %d bits: %d, %d", at, n, v, e)
				}
			} else if want := valueOf(s[at : at+n]); v != want || e != api.OK {
				t.Fatalf("Take at %d of %d bits: %d, %d; want %d", at, n, v, e, want)
			}
		}
	}
	if toText(b) != s {
		t.Error("the argument has changed")
	}
}

func TestTakeExamples(t *testing.T) {
	if v, e := bits.Take(fromText("1011"), 1, 3); v != 3 || e != api.OK {
		t.Error(v, e)
	}
	if v, e := bits.Take(fromText(strings.Repeat("1", 62)), 0, 62); v != 1<<62-1 || e != api.OK {
		t.Error(v, e)
	}
	if v, e := bits.Take(nil, 0, 0); v != 0 || e != api.OK {
		t.Error(v, e)
	}
	if v, e := bits.Take(nil, 0, 1); v != 0 || e != api.ErrTruncated {
		t.Error(v, e)
	}
}

func TestTakeErrors(t *testing.T) {
	b := fromText("1111")
	for _, n := range badSizes {
		for _, at := range []int{0, 4, 5, -1} {
			if v, e := bits.Take(b, at, n); v != 0 || e != api.ErrRange {
				t.Errorf("Take at %d with n = %d: %d, %d", at, n, v, e)
			}
		}
	}
	for _, at := range []int{-1, 5, 6, math.MaxInt, math.MinInt, math.MaxInt - 61} {
		for _, n := range []int{0, 1, 62} {
			if v, e := bits.Take(b, at, n); v != 0 || e != api.ErrRange {
				t.Errorf("Take at %d with n = %d: %d, %d", at, n, v, e)
			}
		}
	}
	// Bits behind the end of the slice are not its bits.
	if v, e := bits.Take(b[:2], 1, 2); v != 0 || e != api.ErrTruncated {
		t.Error(v, e)
	}
	if v, e := bits.Take(b[:2], 3, 0); v != 0 || e != api.ErrRange {
		t.Error(v, e)
	}
}

// TestBytes checks P1.3.
func TestBytes(t *testing.T) {
	r := newRand()
	for n := range 100 {
		b := randomBits(r, n)
		s := toText(b)
		var want []byte
		for padded := s + "0000000"; len(padded) >= 8; padded = padded[8:] {
			want = append(want, byte(valueOf(padded[:8])))
		}
		if p := bits.Bytes(b); !slices.Equal(p, want) {
			t.Fatalf("Bytes(%s) = %v, want %v", s, p, want)
		}
		if toText(b) != s {
			t.Fatal("the argument has changed")
		}
	}
	if p := bits.Bytes([]bool{true}); !slices.Equal(p, []byte{128}) {
		t.Error(p)
	}
	if p := bits.Bytes(fromText("1111111")[:3]); !slices.Equal(p, []byte{0xe0}) {
		t.Error(p)
	}
}

// TestFromBytes checks P1.3.
func TestFromBytes(t *testing.T) {
	p := []byte{0xa5, 0x01, 0x80, 0xff, 0x00, 0x36}
	s := ""
	for _, c := range p {
		s += lowText(int(c), 8)
	}
	for n := 0; n <= len(s); n++ {
		if b, e := bits.FromBytes(p, n); toText(b) != s[:n] || e != api.OK {
			t.Fatalf("the first %d bits are %s, %d", n, toText(b), e)
		}
	}
	if b, e := bits.FromBytes(nil, 0); len(b) != 0 || e != api.OK {
		t.Error(b, e)
	}
	if !slices.Equal(p, []byte{0xa5, 0x01, 0x80, 0xff, 0x00, 0x36}) {
		t.Error("the argument has changed")
	}
}

func TestFromBytesErrors(t *testing.T) {
	full := make([]byte, api.MaxBits/8+1)
	for _, x := range []struct {
		p    []byte
		n    int
		want api.Errno
	}{
		{full, -1, api.ErrRange},
		{nil, -1, api.ErrRange},
		{nil, math.MinInt, api.ErrRange},
		{full, api.MaxBits + 1, api.ErrLong},
		{nil, api.MaxBits + 1, api.ErrLong},
		{nil, math.MaxInt, api.ErrLong},
		{nil, 1, api.ErrTruncated},
		{[]byte{1}, 9, api.ErrTruncated},
		{[]byte{1, 2}, 17, api.ErrTruncated},
		{[]byte{1, 2}[:1], 9, api.ErrTruncated},
		{full[:api.MaxBits/8-1], api.MaxBits, api.ErrTruncated},
	} {
		if b, e := bits.FromBytes(x.p, x.n); len(b) != 0 || e != x.want {
			t.Errorf("%d bits of %d bytes: %d bits, error %d; want %d", x.n, len(x.p), len(b), e, x.want)
		}
	}
	for _, p := range [][]byte{full, full[:api.MaxBits/8]} {
		if b, e := bits.FromBytes(p, api.MaxBits); len(b) != api.MaxBits || e != api.OK {
			t.Error(len(b), e)
		}
	}
}

// TestFormat checks P1.4.
func TestFormat(t *testing.T) {
	for _, s := range []string{"", "0", "1", "01", "10", "0011010111", strings.Repeat("110", 100)} {
		if f := bits.Format(fromText(s)); f != s {
			t.Errorf("Format of %s is %s", s, f)
		}
	}
}

// TestParse checks P1.4.
func TestParse(t *testing.T) {
	for _, s := range []string{"", "0", "1", "01", "10", "0011010111", strings.Repeat("110", 100)} {
		if b, e := bits.Parse(s); toText(b) != s || e != api.OK {
			t.Errorf("Parse of %s is %s, %d", s, toText(b), e)
		}
	}
	s := strings.Repeat("1", api.MaxBits)
	if b, e := bits.Parse(s); toText(b) != s || e != api.OK {
		t.Error(len(b), e)
	}
}

func TestParseErrors(t *testing.T) {
	for c := range 256 {
		if c == '0' || c == '1' {
			continue
		}
		x := string([]byte{byte(c)})
		for _, s := range []string{x, x + "01", "01" + x, "0" + x + "1"} {
			if b, e := bits.Parse(s); len(b) != 0 || e != api.ErrChar {
				t.Errorf("Parse(%q) = %v, %d", s, b, e)
			}
		}
	}
	for _, s := range []string{strings.Repeat("0", api.MaxBits+1), strings.Repeat("x", api.MaxBits+1)} {
		if b, e := bits.Parse(s); len(b) != 0 || e != api.ErrLong {
			t.Error(len(b), e)
		}
	}
	if b, e := bits.Parse(strings.Repeat("0", api.MaxBits-1) + "2"); len(b) != 0 || e != api.ErrChar {
		t.Error(len(b), e)
	}
}

// TestWeight checks P1.5.
func TestWeight(t *testing.T) {
	r := newRand()
	for n := range 200 {
		b := randomBits(r, n)
		if w, want := bits.Weight(b), strings.Count(toText(b), "1"); w != want {
			t.Errorf("Weight of %s is %d", toText(b), w)
		}
	}
	if w := bits.Weight(nil); w != 0 {
		t.Error(w)
	}
}

// TestDistance checks P1.5.
func TestDistance(t *testing.T) {
	if n, e := bits.Distance(fromText("1010"), fromText("0110")); n != 2 || e != api.OK {
		t.Error(n, e)
	}
	if n, e := bits.Distance(nil, []bool{}); n != 0 || e != api.OK {
		t.Error(n, e)
	}
	r := newRand()
	for n := range 100 {
		a, b := randomBits(r, n), randomBits(r, n)
		want := 0
		for i := range a {
			if a[i] != b[i] {
				want++
			}
		}
		if d, e := bits.Distance(a, b); d != want || e != api.OK {
			t.Errorf("Distance of %s and %s is %d, %d", toText(a), toText(b), d, e)
		}
	}
	for _, x := range [][2]string{{"", "0"}, {"0", ""}, {"01", "011"}, {"011", "01"}, {"1", "00"}} {
		if n, e := bits.Distance(fromText(x[0]), fromText(x[1])); n != 0 || e != api.ErrLength {
			t.Errorf("Distance of %s and %s is %d, %d", x[0], x[1], n, e)
		}
	}
}

// TestWords checks P1.6.
func TestWords(t *testing.T) {
	r := newRand()
	for _, fill := range []bool{false, true} {
		for size := 1; size <= 62; size++ {
			for _, n := range []int{0, 1, size - 1, size, size + 1, 3*size - 1, 3 * size, 100} {
				b := randomBits(r, n)
				s := toText(b)
				var want []int
				for padded := s + strings.Repeat(toText([]bool{fill}), size-1); len(padded) >= size; padded = padded[size:] {
					want = append(want, valueOf(padded[:size]))
				}
				if l, e := bits.Words(b, size, fill); !slices.Equal(l, want) || e != api.OK {
					t.Fatalf("Words(%s, %d, %v) = %v, %d; want %v", s, size, fill, l, e, want)
				}
				if toText(b) != s {
					t.Fatal("the argument has changed")
				}
			}
		}
	}
	if l, e := bits.Words(fromText("101"), 2, true); !slices.Equal(l, []int{2, 3}) || e != api.OK {
		t.Error(l, e)
	}
	if l, e := bits.Words(fromText("10111")[:3], 2, false); !slices.Equal(l, []int{2, 2}) || e != api.OK {
		t.Error(l, e)
	}
}

func TestWordsErrors(t *testing.T) {
	for _, size := range append([]int{0}, badSizes...) {
		for _, fill := range []bool{false, true} {
			for _, b := range [][]bool{nil, fromText("101")} {
				if l, e := bits.Words(b, size, fill); len(l) != 0 || e != api.ErrRange {
					t.Errorf("size %d: %v, %d", size, l, e)
				}
			}
		}
	}
}

// TestFromWords checks P1.6.
func TestFromWords(t *testing.T) {
	if b, e := bits.FromWords([]int{2, 3}, 2); toText(b) != "1011" || e != api.OK {
		t.Error(toText(b), e)
	}
	r := newRand()
	for size := 1; size <= 62; size++ {
		l := []int{0, 1<<size - 1, 1 << (size - 1)}
		for range 5 {
			l = append(l, r.IntN(1<<size))
		}
		kept := slices.Clone(l)
		want := ""
		for _, w := range l {
			want += lowText(w, size)
		}
		if b, e := bits.FromWords(l, size); toText(b) != want || e != api.OK {
			t.Errorf("FromWords(%v, %d) = %s, %d", l, size, toText(b), e)
		}
		if !slices.Equal(l, kept) {
			t.Error("the argument has changed")
		}
		if b, e := bits.FromWords(nil, size); len(b) != 0 || e != api.OK {
			t.Error(size, b, e)
		}
	}
}

func TestFromWordsErrors(t *testing.T) {
	for _, size := range append([]int{0}, badSizes...) {
		for _, l := range [][]int{nil, {0}, {-1}, make([]int, api.MaxBits+1)} {
			if b, e := bits.FromWords(l, size); len(b) != 0 || e != api.ErrRange {
				t.Errorf("size %d: %d bits, %d", size, len(b), e)
			}
		}
	}
	for size := 1; size <= 62; size++ {
		for _, w := range []int{-1, 1 << size, math.MaxInt, math.MinInt, -1 << size} {
			for _, l := range [][]int{{w}, {w, 0}, {0, w}, {0, 1, w, 1}} {
				if b, e := bits.FromWords(l, size); len(b) != 0 || e != api.ErrRange {
					t.Errorf("FromWords(%v, %d): %d bits, %d", l, size, len(b), e)
				}
			}
		}
	}
}

func TestFromWordsLimit(t *testing.T) {
	for _, size := range []int{1, 2, 3, 8, 31, 61, 62} {
		most := api.MaxBits / size
		if b, e := bits.FromWords(make([]int, most), size); len(b) != most*size || e != api.OK {
			t.Errorf("%d words of %d bits: %d bits, %d", most, size, len(b), e)
		}
		l := make([]int, most+1)
		if b, e := bits.FromWords(l, size); len(b) != 0 || e != api.ErrLong {
			t.Errorf("%d words of %d bits: %d bits, %d", most+1, size, len(b), e)
		}
		l[0] = -1
		if b, e := bits.FromWords(l, size); len(b) != 0 || e != api.ErrLong {
			t.Errorf("with an element out of range: %d bits, %d", len(b), e)
		}
		if b, e := bits.FromWords(l[:most], size); len(b) != 0 || e != api.ErrRange {
			t.Errorf("with an element out of range: %d bits, %d", len(b), e)
		}
	}
}
