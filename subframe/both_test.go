package subframe_test

import (
	"math/rand"
	"slices"
	"testing"

	"jetsam/api"
	"jetsam/bits"
	"jetsam/rice"
	"jetsam/subframe"
)

// P7.4.

// comesBack tells that Read of Write is the samples, and the plan, whatever stands behind.
func comesBack(t *testing.T, c channel) {
	t.Helper()
	w := bits.NewWriter()
	if e := subframe.Write(w, c.p, c.depth, c.l...); e != api.OK {
		t.Fatal(c.p, c.depth, len(c.l), int(e))
	}
	many := w.Len()
	for _, behind := range [][]byte{nil, {0}, {0xff, 0xff, 0x5a}} {
		w.Append(behind)
		r := bits.NewReader(w.Bytes())
		l, p, e := subframe.Read(r, len(c.l), c.depth)
		if g := (got{l, p, e, r.At()}); !g.same(got{c.l, c.p, api.OK, many}) {
			t.Fatal(short(c), short(g))
		}
	}
}

func TestReadOfWriteIsWhatWasWritten(t *testing.T) {
	rng := rand.New(rand.NewSource(12))
	seen := map[int]int{}
	for range 20000 {
		c := randomChannel(rng)
		comesBack(t, c)
		seen[c.p.Kind]++
	}
	for kind := range 4 {
		if seen[kind] < 1500 {
			t.Error("too few of the Kind", kind, seen[kind])
		}
	}
}

func TestReadOfWriteAtTheEdges(t *testing.T) {
	for depth := 4; depth <= 33; depth++ {
		low, high := least(depth), most(depth)
		for wasted := range depth {
			by := 1 << wasted
			top := high / by * by
			comesBack(t, channel{constant(wasted), depth, []int{low}})
			comesBack(t, channel{constant(wasted), depth, []int{0, 0, 0}})
			comesBack(t, channel{verbatim(wasted), depth, []int{low}})
			comesBack(t, channel{verbatim(wasted), depth, []int{top, low, 0, -by}})
			comesBack(t, channel{fixed(1, wasted, coded(0, 3)), depth, []int{low, low, low}})
			comesBack(t, channel{linear(wasted, telling(2, 0, 1), coded(0, 3)), depth, []int{top, top}})
			comesBack(t, channel{linear(wasted, telling(15, 14, -1<<14), raw(1, 31)), depth, []int{0, 0, 0}})
		}
		if depth <= 31 {
			comesBack(t, channel{fixed(0, 0, raw(0, 31)), depth, []int{low, high, 0}})
		}
	}
	comesBack(t, channel{fixed(0, 0, coded(1, 30)), 32, []int{least(32) + 1, most(32)}})
	for order := 1; order <= 32; order++ {
		comesBack(t, channel{linear(0, telling(3, 1, slices.Repeat([]int{-1}, order)...), coded(0, 5)), 8, slices.Repeat([]int{3, -5, 127, -128}, 9)[:order+1]})
	}
}

func TestReadOfWriteOfGreatBlocks(t *testing.T) {
	rng := rand.New(rand.NewSource(13))
	for _, depth := range []int{4, 24, 33} {
		l := randomSamples(rng, 65535, depth)
		comesBack(t, channel{verbatim(0), depth, l})
		p, e := subframe.Best(depth, l...)
		if e != api.OK {
			t.Fatal(int(e))
		}
		comesBack(t, channel{p, depth, l})
		comesBack(t, channel{constant(0), depth, slices.Repeat(l[:1], 65535)})
	}
	l := randomSamples(rng, 1<<15, 8)
	comesBack(t, channel{fixed(0, 0, coded(1, slices.Repeat([]int{6}, 1<<15)...)), 8, l})
}

func TestReadOfWriteOfTheBest(t *testing.T) {
	rng := rand.New(rand.NewSource(14))
	for range 3000 {
		c := randomChannel(rng)
		p, e := subframe.Best(c.depth, c.l...)
		if e != api.OK {
			t.Fatal(c, int(e))
		}
		comesBack(t, channel{p, c.depth, c.l})
	}
}

func TestWhatIsReadIsWrittenAsTheBitsThatWereRead(t *testing.T) {
	rng := rand.New(rand.NewSource(15))
	seen := map[int]int{}
	for range 120000 {
		// Bits of a channel's beginning, and any behind them; or a channel that is damaged.
		depth, block := 4+rng.Intn(30), 1+rng.Intn(20)
		var b []byte
		if rng.Intn(3) == 0 {
			c := randomChannel(rng)
			depth, block = c.depth, len(c.l)
			b = []byte(channelText(t, c.p, c.depth, c.l))
			b[rng.Intn(len(b))] ^= 1
		} else {
			code := []string{"000000", "000001", "001" + digits(3, rng.Intn(5)), "1" + digits(5, rng.Intn(6))}[rng.Intn(4)]
			b = append(b, "0"+code...)
			for range 600 {
				b = append(b, '0'+byte(rng.Intn(2)))
			}
		}
		s := string(b)
		g := read(t, s, block, depth)
		if g.e != api.OK {
			continue
		}
		writes(t, g.p, depth, g.l, s[:g.used])
		if len(g.l) != block || subframe.Check(g.p, depth, g.l...) != api.OK {
			t.Fatal(s, g)
		}
		seen[g.p.Kind]++
	}
	for kind := range 4 {
		if seen[kind] < 1000 {
			t.Error("too few of the Kind", kind, seen[kind])
		}
	}
}

func TestWriteOfReadKeepsPlansThatAreNotTheBest(t *testing.T) {
	for _, c := range []channel{
		// Samples that are all the same, or that more divides than is told.
		{verbatim(0), 8, []int{4, 4, 4}},
		{verbatim(1), 8, []int{4, 4, 4}},
		{constant(1), 8, []int{4, 4, 4}},
		{constant(5), 8, []int{0, 0}},
		{fixed(0, 0, coded(0, 14)), 8, []int{4, 4, 4, 4}},
		{fixed(0, 0, raw(1, 31, 30)), 8, []int{4, 4, 4, 4}},
		{linear(0, telling(15, 15, 0, 0, 0), coded(1, 30)), 8, []int{4, 4, 4, 4}},
		{linear(0, telling(1, 0, 0), rice.Plan{Params: []int{rice.Raw}, Bits: []int{9}}), 8, []int{1, 2, 3}},
	} {
		s := channelText(t, c.p, c.depth, c.l)
		g := read(t, s, len(c.l), c.depth)
		if !g.same(got{c.l, c.p, api.OK, len(s)}) {
			t.Error(c, g)
		}
		writes(t, g.p, c.depth, g.l, s)
	}
}
