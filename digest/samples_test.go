package digest_test

import (
	"bytes"
	"math"
	"math/rand"
	"slices"
	"testing"

	"jetsam/api"
	"jetsam/digest"
)

// P4.2.

func TestBytesOfSamples(t *testing.T) {
	for _, c := range []struct {
		depth    int
		channels [][]int
		want     string
	}{
		{12, [][]int{{1, -1}, {2, 3}}, "\x01\x00\x02\x00\xff\xff\x03\x00"},
		// Whole bytes: of 4 to 8 bits one, of 9 to 16 two, of 17 to 24 three, of 25 to 32 four.
		{4, [][]int{{7, -8, 0, -1}}, "\x07\xf8\x00\xff"},
		{5, [][]int{{15, -16}}, "\x0f\xf0"},
		{8, [][]int{{127, -128}}, "\x7f\x80"},
		{9, [][]int{{255, -256}}, "\xff\x00\x00\xff"},
		{16, [][]int{{32767, -32768}}, "\xff\x7f\x00\x80"},
		{17, [][]int{{65535, -65536}}, "\xff\xff\x00\x00\x00\xff"},
		{20, [][]int{{-1, 0x12345}}, "\xff\xff\xff\x45\x23\x01"},
		{24, [][]int{{8388607, -8388608}}, "\xff\xff\x7f\x00\x00\x80"},
		{25, [][]int{{16777215, -16777216}}, "\xff\xff\xff\x00\x00\x00\x00\xff"},
		{32, [][]int{{2147483647, -2147483648}}, "\xff\xff\xff\x7f\x00\x00\x00\x80"},
		{32, [][]int{{0x12345678}, {-2}}, "\x78\x56\x34\x12\xfe\xff\xff\xff"},
		// Sample by sample, of all channels in order.
		{8, [][]int{{1}, {2}, {3}, {4}, {5}, {6}, {7}, {8}}, "\x01\x02\x03\x04\x05\x06\x07\x08"},
		{8, [][]int{{1, 4}, {2, 5}, {3, 6}}, "\x01\x02\x03\x04\x05\x06"},
	} {
		if b, e := digest.Bytes(c.depth, c.channels...); string(b) != c.want || e != api.OK {
			t.Errorf("depth %d, %v: %x, error %d", c.depth, c.channels, b, int(e))
		}
	}
}

func TestBytesOfEachDepth(t *testing.T) {
	rng := rand.New(rand.NewSource(1))
	for depth := 4; depth <= 32; depth++ {
		least, greatest := bounds(depth)
		for many := 1; many <= 8; many++ {
			for _, n := range []int{0, 1, 2, 5, 100} {
				channels := randomChannels(rng, depth, many, n)
				if n == 5 {
					channels[many-1] = []int{least, greatest, least + 1, greatest - 1, 0}
				}
				want := bytesOf(depth, channels)
				b, e := digest.Bytes(depth, channels...)
				if !bytes.Equal(b, want) || e != api.OK {
					t.Fatalf("depth %d, %v: %x, not %x, error %d", depth, channels, b, want, int(e))
				}
				// P4.3.
				if len(b) != n*many*sampleSize(depth) {
					t.Fatal(depth, many, n, len(b))
				}
			}
		}
	}
}

func TestChannelsWithoutSamples(t *testing.T) {
	for _, depth := range []int{4, 8, 9, 32} {
		for many := 1; many <= 8; many++ {
			channels := make([][]int, many)
			channels[many/2] = []int{}
			if b, e := digest.Bytes(depth, channels...); len(b) != 0 || e != api.OK {
				t.Error(depth, many, b, int(e))
			}
		}
	}
}

func TestWrongDepths(t *testing.T) {
	for _, depth := range []int{3, 2, 1, 0, -1, -4, -8, -32, math.MinInt, 33, 34, 36, 40, 64, 65, 128, 1 << 32, 1<<32 + 8, math.MaxInt} {
		refuses(t, api.ErrArg, depth, []int{0})
		refuses(t, api.ErrArg, depth, nil)
		refuses(t, api.ErrArg, depth)
		refuses(t, api.ErrArg, depth, []int{1, 2}, []int{0, -1})
		// ErrArg is named first.
		refuses(t, api.ErrArg, depth, []int{math.MaxInt})
	}
}

func TestWrongChannels(t *testing.T) {
	for _, depth := range []int{4, 16, 32} {
		refuses(t, api.ErrArg, depth)
		for _, many := range []int{9, 10, 16, 100} {
			refuses(t, api.ErrArg, depth, make([][]int, many)...)
			l := make([][]int, many)
			for i := range l {
				l[i] = []int{math.MinInt}
			}
			refuses(t, api.ErrArg, depth, l...)
		}
	}
}

func TestChannelsThatAreNotAsLong(t *testing.T) {
	rng := rand.New(rand.NewSource(2))
	for many := 2; many <= 8; many++ {
		for wrong := range many {
			for _, n := range []int{0, 1, 2, 6} {
				channels := randomChannels(rng, 16, many, 3)
				channels[wrong] = randomSamples(rng, 16, n)
				refuses(t, api.ErrArg, 16, channels...)
				// ErrArg is named first.
				channels[0] = slices.Repeat([]int{1 << 40}, len(channels[0]))
				refuses(t, api.ErrArg, 16, channels...)
			}
		}
	}
}

func TestSamplesBeyondTheirDepth(t *testing.T) {
	rng := rand.New(rand.NewSource(3))
	for depth := 4; depth <= 32; depth++ {
		least, greatest := bounds(depth)
		for _, v := range []int{
			least - 1, least - 2, 2 * least, 2*least - 1, -1 << 32, -1 << 48, math.MinInt, math.MinInt + 1,
			greatest + 1, greatest + 2, 2*greatest + 1, 2*greatest + 2, 1 << 32, 1 << 48, math.MaxInt, math.MaxInt - 1,
		} {
			refuses(t, api.ErrRange, depth, []int{v})
			many, n := 1+rng.Intn(8), 1+rng.Intn(5)
			channels := randomChannels(rng, depth, many, n)
			channels[rng.Intn(many)][rng.Intn(n)] = v
			refuses(t, api.ErrRange, depth, channels...)
			channels[many-1][n-1] = v
			refuses(t, api.ErrRange, depth, channels...)
		}
	}
}

func TestSamplesAreNotWritten(t *testing.T) {
	rng := rand.New(rand.NewSource(4))
	room := randomChannels(rng, 16, 8, 20)
	before := make([][]int, len(room))
	channels := make([][]int, len(room))
	for i := range room {
		before[i] = slices.Clone(room[i])
		channels[i] = room[i][:10]
	}
	want := bytesOf(16, channels)
	a, e := digest.Bytes(16, channels[:5]...)
	b, f := digest.Bytes(16, channels...)
	if e != api.OK || f != api.OK || !bytes.Equal(b, want) {
		t.Fatal(int(e), int(f), b)
	}
	refuses(t, api.ErrRange, 4, channels...)
	for i := range room {
		if !slices.Equal(room[i], before[i]) || len(channels[i]) != 10 {
			t.Fatal("channel", i, "was written into, or behind")
		}
	}
	// What was answered is the caller's.
	for i := range a {
		a[i] ^= 0xff
	}
	a = append(a, 1, 2, 3)
	if !bytes.Equal(b, want) {
		t.Fatalf("%x after %x was written into", b, a)
	}
	if c, e := digest.Bytes(16, channels...); !bytes.Equal(c, want) || e != api.OK {
		t.Fatal(c, int(e))
	}
	// Nor are samples kept.
	for _, samples := range room {
		clear(samples)
	}
	if !bytes.Equal(b, want) {
		t.Fatalf("%x after the samples were cleared", b)
	}
}

func TestDigestOfSamples(t *testing.T) {
	// As it is taken of a stream: block by block, all bytes one behind the other.
	rng := rand.New(rand.NewSource(5))
	for _, depth := range []int{4, 8, 12, 16, 20, 24, 32} {
		d := digest.New()
		var all []byte
		for range 10 {
			channels := randomChannels(rng, depth, 2, rng.Intn(50))
			b, e := digest.Bytes(depth, channels...)
			if e != api.OK {
				t.Fatal(int(e))
			}
			d.Add(b)
			all = append(all, bytesOf(depth, channels)...)
		}
		holds(t, d, all)
	}
}
