package bits_test

import (
	"math"
	"slices"
	"testing"

	"barscan/api"
	"barscan/bits"
)

// TestReader checks P1.7.
func TestReader(t *testing.T) {
	r := newRand()
	for range 200 {
		s := toText(randomBits(r, r.IntN(300)))
		reader := bits.NewReader(fromText(s))
		for len(s) > 0 {
			n := min(r.IntN(63), len(s))
			if left := reader.Left(); left != len(s) {
				t.Fatalf("%d bits left, want %d", left, len(s))
			}
			v, e := reader.Take(n)
			if want := valueOf(s[:n]); v != want || e != api.OK {
				t.Fatalf("Take(%d) = %d, %d; want %d", n, v, e, want)
			}
			s = s[n:]
		}
		if v, e := reader.Take(1); v != 0 || e != api.ErrTruncated {
			t.Fatal(v, e)
		}
		if v, e := reader.Take(0); v != 0 || e != api.OK || reader.Left() != 0 {
			t.Fatal(v, e, reader.Left())
		}
	}
}

func TestReaderErrors(t *testing.T) {
	reader := bits.NewReader(fromText("10110"))
	for _, n := range badSizes {
		if v, e := reader.Take(n); v != 0 || e != api.ErrRange || reader.Left() != 5 {
			t.Errorf("Take(%d) = %d, %d", n, v, e)
		}
	}
	for _, n := range []int{6, 7, 62} {
		if v, e := reader.Take(n); v != 0 || e != api.ErrTruncated || reader.Left() != 5 {
			t.Errorf("Take(%d) = %d, %d", n, v, e)
		}
	}
	if v, e := reader.Take(3); v != 5 || e != api.OK || reader.Left() != 2 {
		t.Error(v, e, reader.Left())
	}
	if v, e := reader.Take(3); v != 0 || e != api.ErrTruncated || reader.Left() != 2 {
		t.Error(v, e, reader.Left())
	}
	if v, e := reader.Take(2); v != 2 || e != api.OK || reader.Left() != 0 {
		t.Error(v, e, reader.Left())
	}
}

func TestReaderNil(t *testing.T) {
	var none *bits.Reader
	for _, r := range []*bits.Reader{none, new(bits.Reader)} {
		for _, n := range []int{0, 1, 62, -1, 63, math.MaxInt, math.MinInt} {
			if v, e := r.Take(n); v != 0 || e != api.ErrNil {
				t.Errorf("Take(%d) = %d, %d", n, v, e)
			}
			if left := r.Left(); left != 0 {
				t.Error(left)
			}
		}
	}
}

func TestReaderEmpty(t *testing.T) {
	for _, b := range [][]bool{nil, {}} {
		r := bits.NewReader(b)
		if r == nil {
			t.Fatal("no reader of no bits")
		}
		if v, e := r.Take(0); v != 0 || e != api.OK || r.Left() != 0 {
			t.Error(v, e, r.Left())
		}
		if v, e := r.Take(1); v != 0 || e != api.ErrTruncated {
			t.Error(v, e)
		}
	}
}

func TestReaderCopies(t *testing.T) {
	b := fromText("1010")
	r, other := bits.NewReader(b), bits.NewReader(b)
	b[0], b[1] = false, true
	if v, e := r.Take(4); v != 10 || e != api.OK {
		t.Error(v, e)
	}
	if other.Left() != 4 {
		t.Error("reading from one reader has read from another one")
	}
	if toText(b) != "0110" {
		t.Error("reading has changed the argument")
	}
}

// TestInverse checks P1.8: numbers that were appended are taken again, with Take and with a reader.
func TestInverse(t *testing.T) {
	r := newRand()
	for range 100 {
		var b []bool
		var sizes, low []int
		for range r.IntN(40) {
			n, v := r.IntN(63), int(r.Uint64())
			next, e := bits.Append(b, v, n)
			if e != api.OK {
				t.Fatal(e)
			}
			b = next
			sizes, low = append(sizes, n), append(low, v&(1<<n-1))
		}
		reader, at := bits.NewReader(b), 0
		for i, n := range sizes {
			v, e := bits.Take(b, at, n)
			w, f := reader.Take(n)
			if v != low[i] || w != low[i] || e != api.OK || f != api.OK {
				t.Fatalf("%d bits are %d, %d and %d, %d; want %d", n, v, e, w, f, low[i])
			}
			at += n
		}
		if at != len(b) || reader.Left() != 0 {
			t.Fatalf("%d of %d bits were taken, %d are left", at, len(b), reader.Left())
		}
	}
}

// TestRoundTrips checks P1.9.
func TestRoundTrips(t *testing.T) {
	r := newRand()
	for n := range 150 {
		b := randomBits(r, n)
		if c, e := bits.FromBytes(bits.Bytes(b), n); !slices.Equal(b, c) || e != api.OK {
			t.Fatalf("bytes of %s: %s, %d", toText(b), toText(c), e)
		}
		if c, e := bits.Parse(bits.Format(b)); !slices.Equal(b, c) || e != api.OK {
			t.Fatalf("text of %s: %s, %d", toText(b), toText(c), e)
		}
		for size := 1; size <= 62; size++ {
			for _, fill := range []bool{false, true} {
				l, e := bits.Words(b, size, fill)
				c, f := bits.FromWords(l, size)
				want := slices.Clone(b)
				for len(want)%size != 0 {
					want = append(want, fill)
				}
				if e != api.OK || f != api.OK || !slices.Equal(c, want) {
					t.Fatalf("words of %s with size %d: %s, %d, %d", toText(b), size, toText(c), e, f)
				}
			}
		}
	}
}

func TestRoundTripsAtLimit(t *testing.T) {
	b := randomBits(newRand(), api.MaxBits)
	if c, e := bits.FromBytes(bits.Bytes(b), len(b)); !slices.Equal(b, c) || e != api.OK {
		t.Error(len(c), e)
	}
	if c, e := bits.Parse(bits.Format(b)); !slices.Equal(b, c) || e != api.OK {
		t.Error(len(c), e)
	}
	l, e := bits.Words(b, 32, true)
	if c, f := bits.FromWords(l, 32); !slices.Equal(b, c) || e != api.OK || f != api.OK {
		t.Error(len(c), e, f)
	}
}

// TestMetric checks P1.10.
func TestMetric(t *testing.T) {
	distance := func(a, b []bool) int {
		n, e := bits.Distance(a, b)
		if e != api.OK {
			t.Fatal(e)
		}
		return n
	}
	var all [][]bool
	for v := range 32 {
		all = append(all, fromText(lowText(v, 5)))
	}
	for _, a := range all {
		for _, b := range all {
			d := distance(a, b)
			if d != distance(b, a) || (d == 0) != slices.Equal(a, b) || d < 0 {
				t.Errorf("%s and %s: %d", toText(a), toText(b), d)
			}
			for _, c := range all {
				if distance(a, c) > d+distance(b, c) {
					t.Errorf("%s, %s and %s", toText(a), toText(b), toText(c))
				}
			}
		}
	}
}
