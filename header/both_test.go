package header_test

import (
	"bytes"
	"math/rand"
	"slices"
	"testing"

	"jetsam/api"
	"jetsam/header"
)

// P8.4.

// comesBack tells that Read of Write is the header, whatever stands behind.
func comesBack(t *testing.T, rng *rand.Rand, h header.Header) {
	t.Helper()
	b, e := header.Write(h)
	if e != api.OK {
		t.Fatal(h, int(e))
	}
	for _, behind := range [][]byte{nil, {0}, {0xff}, b, randomBytes(rng, 1+rng.Intn(30))} {
		reads(t, append(slices.Clone(b), behind...), got{h, len(b), api.OK})
	}
}

func TestReadOfWriteIsTheHeader(t *testing.T) {
	rng := rand.New(rand.NewSource(6))
	for h := range allHeaders {
		comesBack(t, rng, h)
	}
	for range 100000 {
		comesBack(t, rng, randomHeader(rng))
	}
}

func TestReadOfWriteOfMakeIsTheHeader(t *testing.T) {
	rng := rand.New(rand.NewSource(7))
	for range 100000 {
		mode := rng.Intn(11)
		p := api.Params{Rate: rng.Intn(1 << rng.Intn(21)), Channels: channelsOf(mode), Depth: 4 + rng.Intn(29)}
		h, e := header.Make(rng.Intn(2) == 1, rng.Intn(1<<rng.Intn(32)), 1+rng.Intn(65535), mode, p)
		if e != api.OK {
			t.Fatal(mode, p, int(e))
		}
		comesBack(t, rng, h)
	}
}

func TestWriteOfReadIsTheBytesThatWereRead(t *testing.T) {
	rng := rand.New(rand.NewSource(8))
	lengths := map[int]int{}
	for range 400000 {
		// Bytes that begin as a header, with a sum at some place, and any behind that.
		b := append([]byte{0xff, 0xf8 | byte(rng.Intn(2))}, randomBytes(rng, 22)...)
		b[3] &^= 1
		switch rng.Intn(3) {
		case 0:
			b[4] &= 0x7f
		case 1:
			b = append(b[:4], append(written(t, randomHeader(rng))[4:], b[4:]...)...)
		}
		n := 5 + rng.Intn(11)
		b = append(summed(b[:n]), b[n:]...)
		g := read(b)
		if g.e != api.OK {
			continue
		}
		lengths[g.n]++
		if w, e := header.Write(g.h); !bytes.Equal(w, b[:g.n]) || e != api.OK {
			t.Fatalf("%x: %+v, and back %x, error %d", b, g, w, int(e))
		}
	}
	for n := 6; n <= 10; n++ {
		if lengths[n] < 1000 {
			t.Error("too few headers of as many bytes were read", n, lengths[n])
		}
	}
}

func TestWriteOfReadKeepsCodesThatAreNotTheShortest(t *testing.T) {
	for _, h := range []header.Header{
		{BlockCode: 6, Block: 192},
		{BlockCode: 6, Block: 256},
		{BlockCode: 7, Block: 1},
		{BlockCode: 7, Block: 192},
		{BlockCode: 7, Block: 4096},
		{BlockCode: 1, Block: 192, RateCode: 12, Rate: 0},
		{BlockCode: 1, Block: 192, RateCode: 13, Rate: 0},
		{BlockCode: 1, Block: 192, RateCode: 14, Rate: 0},
		{BlockCode: 1, Block: 192, RateCode: 12, Rate: 48000},
		{BlockCode: 1, Block: 192, RateCode: 13, Rate: 44100},
		{BlockCode: 1, Block: 192, RateCode: 14, Rate: 44100},
	} {
		b := written(t, h)
		reads(t, b, got{h, len(b), api.OK})
		if w, e := header.Write(h); !bytes.Equal(w, b) || e != api.OK {
			t.Errorf("%+v: %x, error %d", h, w, int(e))
		}
	}
}

func TestNoShortDamageMakesAnotherHeader(t *testing.T) {
	rng := rand.New(rand.NewSource(9))
	for range 1500 {
		b, e := header.Write(randomHeader(rng))
		if e != api.OK {
			t.Fatal(int(e))
		}
		for width := 1; width <= 8; width++ {
			for at := 0; at+width <= 8*len(b); at++ {
				// The first and the last bit of the row are turned, those between as it comes.
				row := 1<<(width-1) | 1 | rng.Intn(1<<width)
				damaged := turned(b, at, width, row)
				if g := read(damaged); g.e == api.OK && g.n == len(b) {
					t.Fatalf("%x, %x: %+v", b, damaged, g)
				}
			}
		}
	}
}

func TestNoDamageOfEightBitsAtAllMakesAnotherHeader(t *testing.T) {
	rng := rand.New(rand.NewSource(10))
	for range 60 {
		b, e := header.Write(randomHeader(rng))
		if e != api.OK {
			t.Fatal(int(e))
		}
		for at := 0; at+8 <= 8*len(b); at++ {
			for row := 1; row < 256; row++ {
				damaged := turned(b, at, 8, row)
				if g := read(damaged); g.e == api.OK && g.n == len(b) {
					t.Fatalf("%x, %x: %+v", b, damaged, g)
				}
			}
		}
	}
}

// turned is bytes of which a row of bits is turned, where the row has a one.
func turned(b []byte, at, width, row int) []byte {
	b = slices.Clone(b)
	for i := range width {
		if row>>(width-1-i)&1 == 1 {
			b[(at+i)/8] ^= 0x80 >> ((at + i) % 8)
		}
	}
	return b
}
