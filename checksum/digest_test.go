package checksum_test

import (
	"slices"
	"testing"

	"barscan/api"
	"barscan/checksum"
)

// checkDigest checks that a digest has the given bytes.
func checkDigest(t *testing.T, d *checksum.Digest, p []byte) {
	t.Helper()
	if sum, n := d.Sum(), d.Len(); sum != crc32Of(p) || n != len(p) {
		t.Fatalf("a digest of %d bytes: Sum %x, Len %d; want %x", len(p), sum, n, crc32Of(p))
	}
}

// TestDigest checks P6.5 with two pieces.
func TestDigest(t *testing.T) {
	p := random(newRand(), 60)
	for n := range len(p) + 1 {
		for i := range n + 1 {
			d := checksum.NewDigest()
			checkDigest(t, d, nil)
			if e := d.Write(p[:i]); e != api.OK {
				t.Fatal(e)
			}
			checkDigest(t, d, p[:i])
			if e := d.Write(p[i:n]); e != api.OK {
				t.Fatal(e)
			}
			checkDigest(t, d, p[:n])
			checkDigest(t, d, p[:n])
		}
	}
	d := checksum.NewDigest()
	d.Write([]byte("123"))
	d.Write([]byte("456789"))
	if sum, n := d.Sum(), d.Len(); sum != 0xcbf43926 || n != 9 {
		t.Errorf("%x, %d", sum, n)
	}
}

// TestDigests checks P6.5 with several digests that take turns.
func TestDigests(t *testing.T) {
	r := newRand()
	digests, contents := []*checksum.Digest{checksum.NewDigest()}, [][]byte{nil}
	for range 3000 {
		i := r.IntN(len(digests))
		switch r.IntN(12) {
		case 0:
			digests, contents = append(digests, checksum.NewDigest()), append(contents, nil)
		case 1, 2:
			digests, contents = append(digests, digests[i].Clone()), append(contents, slices.Clone(contents[i]))
		default:
			piece := random(r, r.IntN(10))
			saved := slices.Clone(piece)
			if e := digests[i].Write(piece); e != api.OK || !slices.Equal(piece, saved) {
				t.Fatalf("Write(%v) has made %v, %d", saved, piece, e)
			}
			clear(piece)
			contents[i] = append(contents[i], saved...)
		}
		checkDigest(t, digests[i], contents[i])
		if len(digests) > 50 {
			digests, contents = digests[40:], contents[40:]
		}
	}
	for i, d := range digests {
		checkDigest(t, d, contents[i])
	}
}

// TestDigestClone checks that a clone and its original do not change each other.
func TestDigestClone(t *testing.T) {
	d := checksum.NewDigest()
	empty := d.Clone()
	d.Write([]byte("123"))
	clone := d.Clone()
	d.Write([]byte("4"))
	checkDigest(t, clone, []byte("123"))
	clone.Write([]byte("56"))
	checkDigest(t, d, []byte("1234"))
	checkDigest(t, clone, []byte("12356"))
	checkDigest(t, empty, nil)
	second := clone.Clone()
	checkDigest(t, second, []byte("12356"))
	second.Write(nil)
	second.Write([]byte{})
	checkDigest(t, second, []byte("12356"))
}

// TestDigestNil checks P6.5 for digests that were not created.
func TestDigestNil(t *testing.T) {
	var none *checksum.Digest
	var zero checksum.Digest
	for _, d := range []*checksum.Digest{none, new(checksum.Digest), &zero} {
		for range 2 {
			if e := d.Write([]byte("123")); e != api.ErrNil {
				t.Errorf("Write: %d", e)
			}
			if e := d.Write(nil); e != api.ErrNil {
				t.Errorf("Write: %d", e)
			}
			if sum, n, clone := d.Sum(), d.Len(), d.Clone(); sum != 0 || n != 0 || clone != nil {
				t.Errorf("%x, %d, %v", sum, n, clone)
			}
		}
	}
	if checksum.NewDigest() == nil || checksum.NewDigest() == checksum.NewDigest() {
		t.Error("NewDigest has returned no new digest")
	}
}
