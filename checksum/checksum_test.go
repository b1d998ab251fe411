package checksum_test

import (
	"hash/adler32"
	"hash/crc32"
	"math"
	"math/rand/v2"
	"slices"
	"testing"

	"barscan/api"
	"barscan/checksum"
)

// digits are the bytes of most examples.
const digits = "123456789"

func newRand() *rand.Rand {
	return rand.New(rand.NewPCG(3, 4))
}

// random returns n bytes.
func random(r *rand.Rand, n int) []byte {
	p := make([]byte, n)
	for i := range p {
		p[i] = byte(r.IntN(256))
	}
	return p
}

// inputs returns inputs of many kinds: all of one byte, equal bytes, and others.
func inputs() [][]byte {
	list := [][]byte{nil, {}, []byte(digits), make([]byte, 1000), slices.Repeat([]byte{255}, 1000), slices.Repeat([]byte{0, 255}, 70000)}
	for c := range 256 {
		list = append(list, []byte{byte(c)}, []byte{0, byte(c)}, []byte{byte(c), 255})
	}
	r := newRand()
	for n := range 200 {
		list = append(list, random(r, n))
	}
	return append(list, random(r, 5552), random(r, 5553), random(r, 1<<20+1))
}

// steps32 returns what x becomes by n steps of the CRC-32, computed in a simple way.
func steps32(x uint32, n int) uint32 {
	for range n {
		out := x % 2
		x /= 2
		if out == 1 {
			x ^= 0xedb88320
		}
	}
	return x
}

// crc32Of returns the CRC-32, computed in a simple way.
func crc32Of(p []byte) uint32 {
	x := uint32(math.MaxUint32)
	for _, c := range p {
		x = steps32(x^uint32(c), 8)
	}
	return math.MaxUint32 - x
}

// crc16Of returns the CRC-16, computed in a simple way.
func crc16Of(p []byte) uint16 {
	x := 0xffff
	for _, c := range p {
		x ^= int(c) * 256
		for range 8 {
			x *= 2
			if x > 0xffff {
				x = x - 0x10000 ^ 0x1021
			}
		}
	}
	return uint16(x)
}

// adlerOf returns the Adler-32 checksum, computed in a simple way.
func adlerOf(p []byte) uint32 {
	a, b := 1, 0
	for _, c := range p {
		a += int(c)
		b += a
	}
	return uint32(b%65521*65536 + a%65521)
}

// TestCRC32 checks P6.1.
func TestCRC32(t *testing.T) {
	for _, p := range inputs() {
		got := checksum.CRC32(p)
		if got != crc32Of(p) || got != crc32.ChecksumIEEE(p) {
			t.Errorf("the CRC-32 of %d bytes is %x, want %x", len(p), got, crc32Of(p))
		}
	}
	if got := checksum.CRC32([]byte(digits)); got != 0xcbf43926 {
		t.Errorf("%x", got)
	}
	if got := checksum.CRC32(nil); got != 0 {
		t.Errorf("%x", got)
	}
}

// TestCRC16 checks P6.2.
func TestCRC16(t *testing.T) {
	for _, p := range inputs() {
		if got := checksum.CRC16(p); got != crc16Of(p) {
			t.Errorf("the CRC-16 of %d bytes is %x, want %x", len(p), got, crc16Of(p))
		}
	}
	if got := checksum.CRC16([]byte(digits)); got != 0x29b1 {
		t.Errorf("%x", got)
	}
	if got := checksum.CRC16(nil); got != 0xffff {
		t.Errorf("%x", got)
	}
}

// TestAdler32 checks P6.3.
func TestAdler32(t *testing.T) {
	for _, p := range inputs() {
		got := checksum.Adler32(p)
		if got != adlerOf(p) || got != adler32.Checksum(p) {
			t.Errorf("the Adler-32 of %d bytes is %x, want %x", len(p), got, adlerOf(p))
		}
	}
	if got := checksum.Adler32([]byte(digits)); got != 0x091e01de {
		t.Errorf("%x", got)
	}
	if got := checksum.Adler32(nil); got != 1 {
		t.Errorf("%x", got)
	}
}

// TestAdler32Wraps checks P6.3 where the sums are about the modulus.
func TestAdler32Wraps(t *testing.T) {
	// 256 bytes of 255 and one of 240 add up to the modulus less 1, so that a is the modulus.
	p := append(slices.Repeat([]byte{255}, 256), 240)
	for _, last := range []byte{239, 240, 241} {
		p[256] = last
		want := (uint32(last) - 240 + 65521) % 65521
		if got := checksum.Adler32(p) % 65536; got != want {
			t.Errorf("the last byte is %d: a is %d, want %d", last, got, want)
		}
	}
	long := slices.Repeat([]byte{255}, 1<<22)
	if got := checksum.Adler32(long); got != adlerOf(long) {
		t.Errorf("%x", got)
	}
}

// registers returns numbers that are a checksum or not.
func registers() []uint32 {
	list := []uint32{0, 1, 2, 0xff, 0xcbf43926, 0xedb88320, 0x7fffffff, 0x80000000, 0xffffffff}
	r := newRand()
	for range 20 {
		list = append(list, r.Uint32())
	}
	return list
}

// TestCombine checks P6.4.
func TestCombine(t *testing.T) {
	for _, a := range registers() {
		for _, b := range registers() {
			for _, n := range []int{0, 1, 2, 3, 4, 7, 8, 15, 16, 100, 255, 256, 1000} {
				got, e := checksum.Combine(a, b, n)
				if want := b ^ steps32(a, 8*n); got != want || e != api.OK {
					t.Fatalf("Combine(%x, %x, %d) = %x, %d; want %x", a, b, n, got, e, want)
				}
			}
			for _, n := range []int{-1, -2, -8, math.MinInt, math.MinInt + 1} {
				if got, e := checksum.Combine(a, b, n); got != 0 || e != api.ErrRange {
					t.Fatalf("Combine(%x, %x, %d) = %x, %d", a, b, n, got, e)
				}
			}
		}
	}
}

// apply returns what the steps do to x whose results for the single bits are given.
func apply(images [32]uint32, x uint32) uint32 {
	out := uint32(0)
	for i, image := range images {
		if x>>i%2 == 1 {
			out ^= image
		}
	}
	return out
}

// TestCombineFar checks P6.4 for great lengths, by doubling the number of steps.
func TestCombineFar(t *testing.T) {
	var images [32]uint32
	for i := range images {
		images[i] = steps32(1<<i, 8)
	}
	// done[a] is what a becomes by 8 * (1 + 2 + 4 + ... ) steps.
	done := map[uint32]uint32{}
	for _, a := range registers() {
		done[a] = a
	}
	for i := range 63 {
		for _, a := range registers() {
			got, e := checksum.Combine(a, 5, 1<<i)
			if want := 5 ^ apply(images, a); got != want || e != api.OK {
				t.Fatalf("Combine(%x, 5, %d) = %x, %d; want %x", a, 1<<i, got, e, want)
			}
			done[a] = apply(images, done[a])
			got, e = checksum.Combine(a, 0, 1<<i-1+1<<i)
			if want := done[a]; got != want || e != api.OK {
				t.Fatalf("Combine(%x, 0, %d) = %x, %d; want %x", a, 1<<i-1+1<<i, got, e, want)
			}
		}
		doubled := images
		for j := range images {
			doubled[j] = apply(images, images[j])
		}
		images = doubled
	}
}
