package digest_test

import (
	"bytes"
	"math"
	"math/bits"
	"math/rand"
	"strings"
	"testing"

	"jetsam/digest"
)

// P4.1.

func TestSize(t *testing.T) {
	if digest.Size != 16 {
		t.Error(digest.Size)
	}
}

func TestDigestsOfTexts(t *testing.T) {
	for text, want := range map[string]string{
		"":                           "d41d8cd98f00b204e9800998ecf8427e",
		"a":                          "0cc175b9c0f1b6a831c399e269772661",
		"abc":                        "900150983cd24fb0d6963f7d28e17f72",
		"message digest":             "f96b697d7cb7938d525a2f31aaf161d0",
		"abcdefghijklmnopqrstuvwxyz": "c3fcd3d76192e4007dfb496cca67e13b",
		"ABCDEFGHIJKLMNOPQRSTUVWXYZabcdefghijklmnopqrstuvwxyz0123456789": "d174ab98d277d9f5a5611c2c9f419d9f",
		strings.Repeat("1234567890", 8):                                  "57edf4a22be3c955ac49da2e2107b67a",
		strings.Repeat("a", 1000000):                                     "7707d6ae4e027c70eea2a935c2296f21",
		"The quick brown fox jumps over the lazy dog":                    "9e107d9d372bb6826bd81d3542a419d6",
	} {
		if got := hexOf(digest.Sum([]byte(text))); got != want {
			t.Errorf("%.50q: %s", text, got)
		}
		d := digest.New()
		d.Add([]byte(text))
		if got := hexOf(d.Sum()); got != want || d.Len() != len(text) {
			t.Errorf("%.50q: %s, %d", text, got, d.Len())
		}
	}
}

func TestDigestsOfNoBytes(t *testing.T) {
	want := "d41d8cd98f00b204e9800998ecf8427e"
	for i, got := range [][digest.Size]byte{
		digest.Sum(), digest.Sum(nil), digest.Sum([]byte{}), digest.Sum(nil, []byte{}, nil), digest.New().Sum(),
	} {
		if hexOf(got) != want {
			t.Error(i, hexOf(got))
		}
	}
	d := digest.New()
	d.Add()
	d.Add(nil)
	d.Add([]byte{}, nil)
	if hexOf(d.Sum()) != want || d.Len() != 0 {
		t.Error(hexOf(d.Sum()), d.Len())
	}
}

func TestDigestsOfEachLength(t *testing.T) {
	rng := rand.New(rand.NewSource(1))
	for n := range 700 {
		for _, b := range [][]byte{make([]byte, n), bytes.Repeat([]byte{0xff}, n), bytes.Repeat([]byte{0x80}, n), randomBytes(rng, n)} {
			if got, want := digest.Sum(b), sumOf(b); got != want {
				t.Fatalf("%d bytes: %s, not %s", n, hexOf(got), hexOf(want))
			}
			d := digest.New()
			d.Add(b)
			holds(t, d, b)
		}
	}
}

func TestDigestsAreAsTheWordsGo(t *testing.T) {
	rng := rand.New(rand.NewSource(2))
	for _, n := range []int{0, 1, 3, 4, 54, 55, 56, 57, 62, 63, 64, 65, 119, 120, 121, 127, 128, 129, 191, 192, 193, 640, 1000} {
		b := randomBytes(rng, n)
		if got, want := digest.Sum(b), spelt(b); got != want {
			t.Fatalf("%d bytes: %s, not %s", n, hexOf(got), hexOf(want))
		}
	}
}

// spelt is the digest, word for word as the chapter has it.
func spelt(l []byte) [digest.Size]byte {
	many := uint64(len(l))
	l = append(bytes.Clone(l), 128)
	for len(l)%64 != 56 {
		l = append(l, 0)
	}
	for i := range 8 {
		l = append(l, byte(many*8>>(8*i)))
	}
	s := [4][4]int{{7, 12, 17, 22}, {5, 9, 14, 20}, {4, 11, 16, 23}, {6, 10, 15, 21}}
	A, B, C, D := uint32(0x67452301), uint32(0xefcdab89), uint32(0x98badcfe), uint32(0x10325476)
	for ; len(l) > 0; l = l[64:] {
		a, b, c, d := A, B, C, D
		for i := range 64 {
			var F uint32
			var g int
			switch {
			case i < 16:
				F, g = (b&c)|(^b&d), i
			case i < 32:
				F, g = (d&b)|(^d&c), 5*i+1
			case i < 48:
				F, g = b^c^d, 3*i+5
			default:
				F, g = c^(b|^d), 7*i
			}
			g %= 16
			M := uint32(l[4*g]) + uint32(l[4*g+1])<<8 + uint32(l[4*g+2])<<16 + uint32(l[4*g+3])<<24
			K := uint32(math.Floor(math.Abs(math.Sin(float64(i+1))) * (1 << 32)))
			a, d, c, b = d, c, b, b+bits.RotateLeft32(a+F+K+M, s[i/16][i%4])
		}
		A, B, C, D = A+a, B+b, C+c, D+d
	}
	var out [digest.Size]byte
	for i, v := range []uint32{A, B, C, D} {
		for j := range 4 {
			out[4*i+j] = byte(v >> (8 * j))
		}
	}
	return out
}

func TestAskedBetweenParts(t *testing.T) {
	rng := rand.New(rand.NewSource(3))
	for range 200 {
		all := randomBytes(rng, rng.Intn(1000))
		d := digest.New()
		done := 0
		holds(t, d, nil)
		for _, part := range cut(rng, all) {
			d.Add(part)
			done += len(part)
			holds(t, d, all[:done])
			// Asked again it is the same.
			holds(t, d, all[:done])
		}
		holds(t, d, all)
	}
}

func TestAskedAtEachByte(t *testing.T) {
	all := randomBytes(rand.New(rand.NewSource(4)), 400)
	d := digest.New()
	for i := range all {
		holds(t, d, all[:i])
		d.Add(all[i : i+1])
	}
	holds(t, d, all)
}

func TestDigestsDoNotMix(t *testing.T) {
	rng := rand.New(rand.NewSource(5))
	type one struct {
		d *digest.Digest
		b []byte
	}
	var l [5]one
	for i := range l {
		l[i].d = digest.New()
	}
	for range 2000 {
		x := &l[rng.Intn(len(l))]
		part := randomBytes(rng, rng.Intn(100))
		x.d.Add(part)
		x.b = append(x.b, part...)
		digest.Sum(part)
	}
	for _, x := range l {
		holds(t, x.d, x.b)
	}
	holds(t, digest.New(), nil)
}

func TestMoreBitsThanAWordCounts(t *testing.T) {
	if testing.Short() {
		t.Skip("it is long")
	}
	// Of 2^29 bytes, and 64, the bits are 2^32, and 512: cut to 32 they would be those of 64 bytes.
	part := make([]byte, 1<<20)
	d := digest.New()
	for range 1 << 9 {
		d.Add(part)
	}
	d.Add(part[:64])
	if got := hexOf(d.Sum()); got != "86d6d3e2fba02caee5d80c9d0246acf5" || d.Len() != 1<<29+64 {
		t.Error(got, d.Len())
	}
}

func TestNilDigest(t *testing.T) {
	var d *digest.Digest
	for range 2 {
		if hexOf(d.Sum()) != "d41d8cd98f00b204e9800998ecf8427e" || d.Len() != 0 {
			t.Fatal(hexOf(d.Sum()), d.Len())
		}
		d.Add()
		d.Add(nil)
		d.Add([]byte{1, 2, 3}, make([]byte, 100))
	}
}

func TestBytesAreNeitherKeptNorWritten(t *testing.T) {
	rng := rand.New(rand.NewSource(6))
	for range 300 {
		room := randomBytes(rng, 300)
		before := bytes.Clone(room)
		n := rng.Intn(200)
		d := digest.New()
		d.Add(room[:n/2], room[n/2:n])
		digest.Sum(room[:n])
		sum := d.Sum()
		if !bytes.Equal(room, before) {
			t.Fatal("written into, or behind, so many bytes:", n)
		}
		for i := range room {
			room[i] ^= 0xff
		}
		for i := range sum {
			sum[i] ^= 0xff
		}
		holds(t, d, before[:n])
		d.Add(before[n:])
		holds(t, d, before)
	}
}

// P4.3.

func TestPartsDoNotCount(t *testing.T) {
	rng := rand.New(rand.NewSource(7))
	for range 500 {
		all := randomBytes(rng, rng.Intn(1000))
		want := sumOf(all)
		parts := cut(rng, all)
		if got := digest.Sum(parts...); got != want {
			t.Fatalf("%d bytes in %d parts: %s, not %s", len(all), len(parts), hexOf(got), hexOf(want))
		}
		d := digest.New()
		d.Add(parts...)
		holds(t, d, all)
		d = digest.New()
		half := rng.Intn(len(parts) + 1)
		d.Add(parts[:half]...)
		d.Add(parts[half:]...)
		holds(t, d, all)
	}
}

func TestCutAnywhere(t *testing.T) {
	rng := rand.New(rand.NewSource(8))
	for _, n := range []int{1, 55, 56, 63, 64, 65, 128, 192, 200, 256} {
		all := randomBytes(rng, n)
		for at := range n + 1 {
			if got := digest.Sum(all[:at], all[at:]); got != sumOf(all) {
				t.Fatal(n, at, hexOf(got))
			}
			d := digest.New()
			d.Add(all[:at])
			d.Add(all[at:])
			holds(t, d, all)
		}
	}
}
