package frame_test

import (
	"bytes"
	"math/rand"
	"slices"
	"testing"

	"jetsam/api"
	"jetsam/frame"
	"jetsam/header"
	"jetsam/sums"
)

// P10.5.

func TestReadOfWriteIsTheFrameWhateverStandsBehind(t *testing.T) {
	rng := rand.New(rand.NewSource(19))
	for range 4000 {
		s := randomSound(rng)
		b, e := frame.Write(s.f, s.p)
		if e != api.OK {
			t.Fatal(short(s.f), s.p, int(e))
		}
		n := len(b)
		for _, behind := range []string{"", "\x00", "\xff\xff\xff", example, string(b)} {
			f, size, e := frame.Read(append(b[:n:n], behind...), s.p)
			if !frame.Same(f, s.f) || !same(f, s.f) || size != n || e != api.OK {
				t.Fatal(short(s.f), short(f), size, n, int(e))
			}
		}
	}
}

func TestReadOfWriteOfWhatIsMade(t *testing.T) {
	rng := rand.New(rand.NewSource(20))
	for range 2000 {
		p := api.Params{Rate: rng.Intn(1 << 20), Depth: 4 + rng.Intn(29)}
		var channels [][]int
		block := 1 + rng.Intn(100)
		for range 1 + rng.Intn(8) {
			channels = append(channels, randomSamples(rng, block, p.Depth))
		}
		f, e := frame.Make(rng.Intn(2) == 0, rng.Intn(1000), p, channels...)
		b, g := frame.Write(f, p)
		k, n, h := frame.Read(append(b, 0xff), p)
		if !frame.Same(f, k) || n != len(b) || e != api.OK || g != api.OK || h != api.OK || !slices.EqualFunc(k.Samples, channels, slices.Equal[[]int]) {
			t.Fatal(p, channels, short(f), short(k), n, int(e), int(g), int(h))
		}
	}
}

func TestWriteOfReadIsTheBytesThatWereRead(t *testing.T) {
	rng := rand.New(rand.NewSource(21))
	right := 0
	for range 9000 {
		s := randomSound(rng)
		b := writtenOf(t, s.f, s.depth)
		// Any bits of the channels are turned, and the sum is that of what they are now.
		head, _ := header.Write(s.f.Header)
		for range rng.Intn(3) {
			b[len(head)+rng.Intn(len(b)-len(head))] ^= 1 << rng.Intn(8)
		}
		b = summed(b[:len(b)-2])
		f, n, e := frame.Read(b, s.p)
		if e != api.OK {
			continue
		}
		right++
		if c, e := frame.Write(f, s.p); !bytes.Equal(c, b[:n]) || e != api.OK {
			t.Fatalf("%x, and back %x, error %d", b, c, int(e))
		}
	}
	if right < 3000 {
		t.Error("too few were read", right)
	}
}

func TestRenumberBackIsTheBytes(t *testing.T) {
	rng := rand.New(rand.NewSource(22))
	for range 3000 {
		s := randomSound(rng)
		b := writtenOf(t, s.f, s.depth)
		c, e := frame.Renumber(b, s.p, rng.Intn(2) == 0, rng.Intn(1<<31))
		d, g := frame.Renumber(c, s.p, s.f.Variable, s.f.Number)
		if !bytes.Equal(d, b) || e != api.OK || g != api.OK {
			t.Fatalf("%x, %x, %x, error %d, %d", b, c, d, int(e), int(g))
		}
	}
}

// smallSound is a frame of few bytes.
func smallSound(t *testing.T, rng *rand.Rand) (sound, []byte) {
	t.Helper()
	for {
		s := randomSound(rng)
		if b := writtenOf(t, s.f, s.depth); len(b) < 60 {
			return s, b
		}
	}
}

// turned is bytes of which a row of bits is turned, where the row has a one.
func turned(b []byte, at, width, row int) []byte {
	b = slices.Clone(b)
	for i := range width {
		if row>>(width-1-i)&1 == 1 {
			b[(at+i)/8] ^= 0x80 >> ((at + i) % 8)
		}
	}
	return b
}

// isSeen tells that damaged bytes are no frame of as many bytes, by parameters, or by others that tell but the depth.
func isSeen(t *testing.T, b, damaged []byte, s sound) {
	t.Helper()
	for _, p := range []api.Params{s.p, {Depth: s.p.Depth}, {}} {
		if f, n, e := frame.Read(damaged, p); e == api.OK && n == len(b) {
			t.Fatalf("%x, %x: %s", b, damaged, short(f))
		}
	}
}

func TestNoShortDamageMakesAnotherFrame(t *testing.T) {
	rng := rand.New(rand.NewSource(23))
	for range 60 {
		s, b := smallSound(t, rng)
		for width := 1; width <= 16; width++ {
			for at := 0; at+width <= 8*len(b); at++ {
				// The first and the last bit of the row are turned, those between as it comes.
				isSeen(t, b, turned(b, at, width, 1<<(width-1)|1|rng.Intn(1<<width)), s)
			}
		}
	}
}

func TestNoDamageOfSixteenBitsAtAllMakesAnotherFrame(t *testing.T) {
	// A frame in which each bit of the samples may be turned.
	f := frame.Frame{Header: withDepth(headerOf(1, 3), 8), Plans: verbatim(2), Samples: [][]int{{1, -2, 3}, {4, 5, -128}}}
	b := writtenOf(t, f, 8)
	for at := 8 * 8; at+16 <= 8*len(b); at += 5 {
		for row := 1; row < 1<<16; row++ {
			damaged := turned(b, at, 16, row)
			if _, n, e := frame.Read(damaged, api.Params{}); e == api.OK && n == len(b) {
				t.Fatalf("%x, %x", b, damaged)
			}
		}
	}
}

func TestSomeLongerDamageIsAnotherFrame(t *testing.T) {
	// The sums' divisors themselves, which are 17 bits, and 9, are not seen; but what they make is read and written.
	f := frame.Frame{Header: withDepth(headerOf(0, 8), 8), Plans: verbatim(1), Samples: [][]int{{1, 2, 3, 4, 5, 6, 7, 8}}}
	b := writtenOf(t, f, 8)
	damaged := turned(b, 8*10, 17, 0x18005)
	g, n, e := frame.Read(damaged, api.Params{})
	if n != len(b) || e != api.OK || frame.Same(f, g) || sums.Sum16(damaged) != 0 {
		t.Fatalf("%x, %x, error %d", b, damaged, int(e))
	}
	writes(t, g, api.Params{}, damaged)
}
