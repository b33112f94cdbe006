package subframe_test

import (
	"math/rand"
	"slices"
	"strings"
	"testing"

	"jetsam/api"
	"jetsam/bits"
	"jetsam/rice"
	"jetsam/subframe"
)

// P7.1, Write. (What it refuses stands among what Check does.)

// writes tells that samples are written in these bits, behind some that stand there.
func writes(t *testing.T, p subframe.Plan, depth int, l []int, want string) {
	t.Helper()
	w := bits.NewWriter()
	w.Put(3, 5)
	if e := subframe.Write(w, p, depth, l...); e != api.OK {
		t.Fatalf("%s, depth %d, %d samples: error %d", short(p), depth, len(l), int(e))
	}
	if s := textOf(w); s != "101"+want {
		t.Fatalf("%s, depth %d, %d samples: %.200s, not 101%.200s", short(p), depth, len(l), s, want)
	}
}

func TestWritesWhatTheChapterTells(t *testing.T) {
	writes(t, constant(2), 8, []int{4, 4, 4}, "0"+"000000"+"1"+"01"+"000001")
}

func TestWritesByHand(t *testing.T) {
	for _, c := range []struct {
		p     subframe.Plan
		depth int
		l     []int
		want  string
	}{
		{constant(0), 4, []int{-8}, "0 000000 0 1000"},
		{constant(0), 33, []int{1<<32 - 1, 1<<32 - 1}, "0 000000 0 011111111111111111111111111111111"},
		{constant(3), 4, []int{-8, -8}, "0 000000 1 001 1"},
		{constant(3), 4, []int{0}, "0 000000 1 001 0"},
		{constant(7), 8, []int{-128}, "0 000000 1 0000001 1"},
		{constant(32), 33, []int{-1 << 32}, "0 000000 1 00000000000000000000000000000001 1"},
		{verbatim(0), 4, []int{7, -8, 0, -1}, "0 000001 0 0111 1000 0000 1111"},
		{verbatim(1), 4, []int{6, -8, 0, -2}, "0 000001 1 1 011 100 000 111"},
		{verbatim(2), 5, []int{12, -16}, "0 000001 1 01 011 100"},
		{verbatim(0), 33, []int{-1 << 32}, "0 000001 0 100000000000000000000000000000000"},

		// Of each fixed order as many samples as that, and what the others are more.
		{fixed(0, 0, coded(0, 1)), 4, []int{0, -1, 1, 5}, "0 001000 0 00 0000 0001 10 11 010 0000010"},
		{fixed(1, 0, coded(0, 0)), 8, []int{5, 6, 6}, "0 001001 0 00000101 00 0000 0000 001 1"},
		{fixed(2, 0, coded(1, 0)), 4, []int{3, 5, 7, 6}, "0 001010 0 0011 0101 01 0000 00000 1 000001"},
		{fixed(3, 0, raw(0, 0)), 6, []int{3, 5, 9, 15}, "0 001011 0 000011 000101 001001 00 0000 1111 00000"},
		{fixed(4, 0, coded(0, 0)), 6, []int{1, 2, 3, 4, 4}, "0 001100 0 000001 000010 000011 000100 00 0000 0000 01"},
		{fixed(1, 3, coded(0, 0)), 8, []int{40, 48, 48}, "0 001001 1 001 00101 00 0000 0000 001 1"},
		{fixed(1, 0, coded(0, 1, 2)), 8, []int{1, 2, 4, 2}, "0 001001 0 00000001 00 0001 0001 010 0010 0100 111"},
		{fixed(0, 0, raw(1, 2, 3)), 4, []int{1, -2, 3, -4}, "0 001000 0 01 0001 11111 00010 01 10 11111 00011 011 100"},

		// Predictions: 3 times 4, less 2, by 2 is 5; 3 times 5, less 4, by 2, rounded down, is 5 again.
		{linear(0, telling(3, 1, 3, -1), coded(0, 0)), 8, []int{2, 4, 5, 6}, "0 100001 0 00000010 00000100 0010 00001 011 111 00 0000 0000 1 001"},
		{linear(0, telling(1, 0, -1), coded(0, 0)), 4, []int{3, -3, 3}, "0 100000 0 0011 0000 00000 1 00 0000 0000 1 1"},
		{linear(0, telling(15, 15, -16384), coded(0, 0)), 4, []int{3, -2}, "0 100000 0 0011 1110 01111 100000000000000 00 0000 0000 1"},
		{linear(2, telling(2, 1, 1), raw(0, 1)), 8, []int{12, 4, 0}, "0 100000 1 01 000011 0001 00001 01 00 0000 1111 00001 0 0"},
		{linear(0, telling(1, 0, make([]int, 32)...), coded(0, 0)), 4, make([]int, 33), "0 111111 0" + strings.Repeat(" 0000", 32) + "0000 00000" + strings.Repeat(" 0", 32) + "00 0000 0000 1"},
	} {
		writes(t, c.p, c.depth, c.l, plain(c.want))
	}
}

func TestWritesEachOrder(t *testing.T) {
	for order := 1; order <= 32; order++ {
		p := linear(0, telling(6, 3, slices.Repeat([]int{-5}, order)...), coded(0, 4))
		l := slices.Repeat([]int{3, -2, 6}, 15)
		s := "01" + digits(5, order-1) + "0"
		for _, x := range l[:order] {
			s += signed(9, x)
		}
		s += "0101" + "00011" + strings.Repeat("111011", order)
		writes(t, p, 9, l, s+riceText(t, p.Rice, order, residualsOf(p, l)))
	}
}

func TestWritesEachPrecisionAndShift(t *testing.T) {
	for precision := 1; precision <= 15; precision++ {
		for shift := range 16 {
			low, high := -1<<(precision-1), 1<<(precision-1)-1
			p := linear(0, telling(precision, shift, low, high), raw(0, 24))
			l := []int{9, -17, 33, 12}
			s := "0" + "100001" + "0" + signed(9, 9) + signed(9, -17)
			s += digits(4, precision-1) + digits(5, shift) + "1" + strings.Repeat("0", precision-1) + "0" + strings.Repeat("1", precision-1)
			writes(t, p, 9, l, s+riceText(t, p.Rice, 2, residualsOf(p, l)))
		}
	}
}

func TestWritesEachDepthAndWasted(t *testing.T) {
	for depth := 4; depth <= 33; depth++ {
		for wasted := range depth {
			own := depth - wasted
			by, head := 1<<wasted, "0"
			if wasted > 0 {
				head = "1" + strings.Repeat("0", wasted-1) + "1"
			}
			low, high := least(own), most(own)
			lowest, highest := "1"+strings.Repeat("0", own-1), "0"+strings.Repeat("1", own-1)
			writes(t, constant(wasted), depth, []int{low * by, low * by}, "0000000"+head+lowest)
			writes(t, constant(wasted), depth, []int{high * by}, "0000000"+head+highest)
			writes(t, verbatim(wasted), depth, []int{high * by, low * by, 0, -by}, "0000001"+head+highest+lowest+strings.Repeat("0", own)+strings.Repeat("1", own))
			writes(t, fixed(1, wasted, raw(0, 1)), depth, []int{low * by, low * by}, "0001001"+head+lowest+"000000"+"1111"+"00001"+"0")
			writes(t, linear(wasted, telling(2, 0, 1), raw(1, 0)), depth, []int{high * by, high * by}, "0100000"+head+highest+"0001"+"00000"+"01"+"010000"+"11111"+"00000")
		}
	}
}

func TestWritesTheGreatestBlocks(t *testing.T) {
	rng := rand.New(rand.NewSource(3))
	for _, depth := range []int{4, 33} {
		l := randomSamples(rng, 65535, depth)
		for _, p := range []subframe.Plan{verbatim(0), constant(0), fixed(4, 0, rice.Plan{}), linear(0, randomTelling(rng, 32), rice.Plan{})} {
			own := l
			if p.Kind == subframe.Constant {
				own = slices.Repeat(l[:1], 65535)
			}
			if p.Kind >= subframe.Fixed {
				// Small ones, so that no residual is too great.
				for i := range own {
					own[i] %= 1 << 8
				}
				var e api.Errno
				if p.Rice, e = rice.Best(0, p.Order, residualsOf(p, own)...); e != api.OK {
					t.Fatal(p, int(e))
				}
			}
			writes(t, p, depth, own, channelText(t, p, depth, own))
		}
	}
}

func TestWritesRandomChannelsAsTheTextsSay(t *testing.T) {
	rng := rand.New(rand.NewSource(4))
	for range 20000 {
		c := randomChannel(rng)
		writes(t, c.p, c.depth, c.l, channelText(t, c.p, c.depth, c.l))
	}
}

func TestWritesOneChannelBehindTheOther(t *testing.T) {
	rng := rand.New(rand.NewSource(5))
	w := bits.NewWriter()
	want := ""
	for range 200 {
		c := randomChannel(rng)
		if e := subframe.Write(w, c.p, c.depth, c.l...); e != api.OK {
			t.Fatal(c, int(e))
		}
		want += channelText(t, c.p, c.depth, c.l)
		// What is refused between them writes nothing.
		if e := subframe.Write(w, c.p, c.depth, append(slices.Clone(c.l), 1<<33)...); e != api.ErrRange {
			t.Fatal(c, int(e))
		}
	}
	if textOf(w) != want {
		t.Error("others")
	}
}
