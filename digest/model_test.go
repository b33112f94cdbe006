package digest_test

import (
	"crypto/md5"
	"encoding/hex"
	"math/big"
	"math/rand"
	"testing"

	"jetsam/api"
	"jetsam/digest"
)

// The tests hold the digest against the library's own, and against one that is written down as the chapter's words go;
// and the bytes of samples against numbers of any size.

// sumOf is what the digest of bytes has to be.
func sumOf(b []byte) [digest.Size]byte { return md5.Sum(b) }

// hexOf is a digest as it is told.
func hexOf(s [digest.Size]byte) string { return hex.EncodeToString(s[:]) }

// holds tells that a digest is that of bytes, and knows how many these are.
func holds(t *testing.T, d *digest.Digest, b []byte) {
	t.Helper()
	if got, want := d.Sum(), sumOf(b); got != want {
		t.Fatalf("%d bytes: %s, not %s", len(b), hexOf(got), hexOf(want))
	}
	if d.Len() != len(b) {
		t.Fatal(d.Len(), "bytes, not", len(b))
	}
}

// randomBytes is so many.
func randomBytes(rng *rand.Rand, n int) []byte {
	b := make([]byte, n)
	rng.Read(b)
	return b
}

// cut is bytes in parts, some of them empty, or nil.
func cut(rng *rand.Rand, b []byte) [][]byte {
	var l [][]byte
	for len(b) > 0 {
		n := rng.Intn(min(len(b), 1<<rng.Intn(9)) + 1)
		l = append(l, b[:n])
		b = b[n:]
		if rng.Intn(8) == 0 {
			l = append(l, nil)
		}
	}
	return l
}

// sampleSize is how many whole bytes so many bits need.
func sampleSize(depth int) int {
	size := 1
	for 8*size < depth {
		size++
	}
	return size
}

// sampleBytes is one sample's.
func sampleBytes(depth, v int) []byte {
	size := sampleSize(depth)
	n := big.NewInt(int64(v))
	if v < 0 {
		n.Add(n, new(big.Int).Exp(big.NewInt(2), big.NewInt(int64(8*size)), nil))
	}
	var b []byte
	for range size {
		least := new(big.Int)
		n.DivMod(n, big.NewInt(256), least)
		b = append(b, byte(least.Int64()))
	}
	return b
}

// bytesOf is what Bytes has to answer of what may be.
func bytesOf(depth int, channels [][]int) []byte {
	var b []byte
	for at := range channels[0] {
		for _, samples := range channels {
			b = append(b, sampleBytes(depth, samples[at])...)
		}
	}
	return b
}

// bounds are the least and the greatest sample of a depth.
func bounds(depth int) (least, greatest int) {
	above := 1
	for range depth - 1 {
		above *= 2
	}
	return -above, above - 1
}

// randomSamples is so many of a depth, its bounds among them.
func randomSamples(rng *rand.Rand, depth, n int) []int {
	least, greatest := bounds(depth)
	l := make([]int, n)
	for i := range l {
		switch rng.Intn(8) {
		case 0:
			l[i] = least
		case 1:
			l[i] = greatest
		case 2:
			l[i] = rng.Intn(3) - 1
		default:
			l[i] = least + rng.Intn(greatest-least+1)
		}
	}
	return l
}

// randomChannels is so many, of so many samples each.
func randomChannels(rng *rand.Rand, depth, many, n int) [][]int {
	var l [][]int
	for range many {
		l = append(l, randomSamples(rng, depth, n))
	}
	return l
}

// refuses tells that Bytes answers an error, and nothing else.
func refuses(t *testing.T, e api.Errno, depth int, channels ...[]int) {
	t.Helper()
	if b, got := digest.Bytes(depth, channels...); len(b) != 0 || got != e {
		t.Fatalf("depth %d, %d channels: %x, error %d, not %d", depth, len(channels), b, int(got), int(e))
	}
}
