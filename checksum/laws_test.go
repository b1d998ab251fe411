package checksum_test

import (
	"math/rand/v2"
	"slices"
	"testing"

	"barscan/api"
	"barscan/checksum"
)

// combine calls Combine, which must not fail.
func combine(t *testing.T, a, b uint32, n int) uint32 {
	t.Helper()
	x, e := checksum.Combine(a, b, n)
	if e != api.OK {
		t.Fatalf("Combine(%x, %x, %d): %d", a, b, n, e)
	}
	return x
}

// TestPieces checks P6.6: Combine is the CRC-32 of pieces, and associative.
func TestPieces(t *testing.T) {
	r := newRand()
	for range 300 {
		p, q, s := random(r, r.IntN(50)), random(r, r.IntN(50)), random(r, r.IntN(2000))
		a, b, c := checksum.CRC32(p), checksum.CRC32(q), checksum.CRC32(s)
		whole := checksum.CRC32(slices.Concat(p, q, s))
		if x := combine(t, combine(t, a, b, len(q)), c, len(s)); x != whole {
			t.Errorf("the CRC-32 of %v, %v and %v is %x from the left, want %x", p, q, s, x, whole)
		}
		if x := combine(t, a, combine(t, b, c, len(s)), len(q)+len(s)); x != whole {
			t.Errorf("the CRC-32 of %v, %v and %v is %x from the right, want %x", p, q, s, x, whole)
		}
		if x := combine(t, b, c, len(s)); x != checksum.CRC32(slices.Concat(q, s)) {
			t.Errorf("the CRC-32 of %v and %v is %x", q, s, x)
		}
	}
	for range 300 {
		a, b, c, n, m := r.Uint32(), r.Uint32(), r.Uint32(), r.IntN(1<<61), r.IntN(1<<61)
		if combine(t, combine(t, a, b, n), c, m) != combine(t, a, combine(t, b, c, m), n+m) {
			t.Errorf("Combine is not associative for %x, %x, %x, %d and %d", a, b, c, n, m)
		}
	}
}

// TestXor checks P6.6: the checksum of the bitwise xor.
func TestXor(t *testing.T) {
	r := newRand()
	for n := range 200 {
		p, q := random(r, n), random(r, n)
		both := make([]byte, n)
		for i := range both {
			both[i] = p[i] ^ q[i]
		}
		if checksum.CRC32(both) != checksum.CRC32(p)^checksum.CRC32(q)^checksum.CRC32(make([]byte, n)) {
			t.Errorf("the CRC-32s of %v and %v", p, q)
		}
		if checksum.CRC16(both) != checksum.CRC16(p)^checksum.CRC16(q)^checksum.CRC16(make([]byte, n)) {
			t.Errorf("the CRC-16s of %v and %v", p, q)
		}
	}
}

// burst returns a copy of p with other bits from a place on, within some consecutive bits; bit tells where in its byte a bit is.
func burst(r *rand.Rand, p []byte, length int, bit func(at int) byte) []byte {
	q := slices.Clone(p)
	from := r.IntN(8*len(p) - length + 1)
	for slices.Equal(p, q) {
		for at := from; at < from+length; at++ {
			if r.IntN(2) == 1 {
				q[at/8] ^= bit(at % 8)
			}
		}
	}
	return q
}

// TestBursts checks P6.6: errors within few consecutive bits are detected.
func TestBursts(t *testing.T) {
	r := newRand()
	for range 3000 {
		p := random(r, 4+r.IntN(40))
		q := burst(r, p, 1+r.IntN(32), func(at int) byte { return 1 << at })
		if checksum.CRC32(p) == checksum.CRC32(q) {
			t.Errorf("%v and %v have the same CRC-32", p, q)
		}
		q = burst(r, p, 1+r.IntN(16), func(at int) byte { return 0x80 >> at })
		if checksum.CRC16(p) == checksum.CRC16(q) {
			t.Errorf("%v and %v have the same CRC-16", p, q)
		}
	}
}

// TestOneByte checks P6.6: Adler-32 detects a change of one byte.
func TestOneByte(t *testing.T) {
	r := newRand()
	for range 3000 {
		p := random(r, 1+r.IntN(300))
		q := slices.Clone(p)
		q[r.IntN(len(q))] ^= byte(1 + r.IntN(255))
		if checksum.Adler32(p) == checksum.Adler32(q) {
			t.Errorf("%v and %v have the same Adler-32", p, q)
		}
	}
}

// TestArguments checks that no function changes its argument.
func TestArguments(t *testing.T) {
	p := random(newRand(), 1000)
	saved := slices.Clone(p)
	d := checksum.NewDigest()
	for range 2 {
		checksum.CRC32(p)
		checksum.CRC16(p)
		checksum.Adler32(p)
		d.Write(p)
	}
	if !slices.Equal(p, saved) {
		t.Error("the bytes have changed")
	}
}
