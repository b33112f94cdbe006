package info_test

import (
	"bytes"
	"math/rand"
	"slices"
	"testing"

	"jetsam/api"
	"jetsam/info"
)

// P11.1, Read.

func TestFewerBytesRunOut(t *testing.T) {
	for _, b := range [][]byte{writtenOf(plain()), writtenOf(wide()), make([]byte, 34), bytes.Repeat([]byte{0xff}, 34)} {
		for n := range 34 {
			// What stands behind their length does not count.
			reads(t, b[:n], info.Info{}, api.ErrEnd)
			reads(t, b[:n:n], info.Info{}, api.ErrEnd)
		}
	}
	reads(t, nil, info.Info{}, api.ErrEnd)
}

func TestMoreBytesAreNone(t *testing.T) {
	for _, b := range [][]byte{writtenOf(plain()), make([]byte, 34)} {
		for _, more := range []int{1, 2, 34, 222, 256, 1 << 16} {
			reads(t, append(slices.Clone(b), make([]byte, more)...), info.Info{}, api.ErrForm)
		}
		// What stands behind their length does not count.
		reads(t, append(slices.Clone(b), 1)[:34], readIf(b), errorOf(b))
	}
}

// readIf and errorOf are what 34 bytes have to be read as.
func readIf(b []byte) info.Info {
	if i := readOf(b); checkOf(i) == api.OK {
		return i
	}
	return info.Info{}
}

func errorOf(b []byte) api.Errno { return checkOf(readOf(b)) }

func TestBytesThatAreNoInfo(t *testing.T) {
	right := writtenOf(plain())
	for n, turn := range []func(b []byte){
		func(b []byte) { clear(b) },
		func(b []byte) { clear(b[:18]) },
		func(b []byte) { b[0], b[1] = 0, 15 },                         // MinBlock
		func(b []byte) { b[0], b[1] = 0, 0 },                          // MinBlock
		func(b []byte) { b[2], b[3] = 0x0f, 0xff },                    // MaxBlock below MinBlock
		func(b []byte) { b[0], b[1], b[2], b[3] = 0, 15, 0, 15 },      // both
		func(b []byte) { b[7], b[8], b[9] = 0, 0, 13 },                // MaxFrame below MinFrame
		func(b []byte) { b[4], b[5], b[6] = 255, 255, 255 },           // MinFrame above MaxFrame
		func(b []byte) { b[10], b[11], b[12] = 0, 0, b[12]&15 },       // Rate
		func(b []byte) { b[12], b[13] = b[12]&0xfe, b[13]&0x0f|0x20 }, // Depth 3
		func(b []byte) { b[12], b[13] = b[12]&0xfe, b[13]&0x0f },      // Depth 1
	} {
		b := slices.Clone(right)
		turn(b)
		if checkOf(readOf(b)) != api.ErrRange {
			t.Error(n)
		}
		reads(t, b, info.Info{}, api.ErrRange)
	}
	// A size that is not known is at odds with none.
	for _, at := range []int{4, 7} {
		b := slices.Clone(right)
		clear(b[at : at+3])
		reads(t, b, readOf(b), api.OK)
	}
}

func TestDepthsThatMayBeWritten(t *testing.T) {
	for channels := range 8 {
		for depth := range 32 {
			b := writtenOf(plain())
			b[12] = b[12]&0xf0 | byte(channels<<1|depth>>4)
			b[13] = b[13]&0x0f | byte(depth<<4)
			want, e := plain(), api.OK
			want.Channels, want.Depth = channels+1, depth+1
			if depth+1 < 4 {
				want, e = info.Info{}, api.ErrRange
			}
			reads(t, b, want, e)
		}
	}
}

func TestReadsAnyBytes(t *testing.T) {
	rng := rand.New(rand.NewSource(3))
	right := 0
	for range 40000 {
		b := make([]byte, 34)
		rng.Read(b)
		for range rng.Intn(4) {
			// Rows of noughts, and of ones.
			at := rng.Intn(18)
			for k := at; k < min(18, at+rng.Intn(5)); k++ {
				b[k] = byte(some(rng, 0, 255))
			}
		}
		if errorOf(b) == api.OK {
			right++
		}
		reads(t, b, readIf(b), errorOf(b))
	}
	if right < 5000 {
		t.Error("too few were read", right)
	}
}

func TestReadsInfosOfWhichABitIsTurned(t *testing.T) {
	rng := rand.New(rand.NewSource(4))
	for range 200 {
		b := writtenOf(randomInfo(rng))
		for k := range 8 * len(b) {
			b[k/8] ^= 0x80 >> (k % 8)
			reads(t, b, readIf(b), errorOf(b))
			b[k/8] ^= 0x80 >> (k % 8)
		}
	}
}

func TestReadDoesNotWriteIntoItsBytes(t *testing.T) {
	rng := rand.New(rand.NewSource(5))
	for range 1000 {
		n := some(rng, 0, 1, 33, 34, 34, 34, 35)
		b := append(writtenOf(randomInfo(rng)), 1, 2, 3)
		before := slices.Clone(b)
		i, _ := info.Read(b[:n])
		if !bytes.Equal(b, before) {
			t.Fatalf("%x, %x", before, b)
		}
		// What was read does not hang on what becomes of them.
		want := info.Info{}
		if n == 34 {
			want = readOf(b[:34])
		}
		clear(b)
		if i != want {
			t.Fatalf("%+v, %+v", i, want)
		}
	}
}
