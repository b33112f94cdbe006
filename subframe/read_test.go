package subframe_test

import (
	"bytes"
	"math"
	"math/rand"
	"slices"
	"strings"
	"testing"

	"jetsam/api"
	"jetsam/bits"
	"jetsam/rice"
	"jetsam/subframe"
)

// P7.2.

// reads tells that Read of a text answers what it has to.
func reads(t *testing.T, s string, block, depth int, want got) {
	t.Helper()
	if g := read(t, s, block, depth); !g.same(want) {
		t.Fatalf("%.100s (%d, %d): %s, not %s", s, block, depth, short(g), short(want))
	}
}

// fails tells that it answers an error, and that the Reader stands where it stood.
func fails(t *testing.T, e api.Errno, s string, block, depth int) {
	t.Helper()
	reads(t, plain(s), block, depth, got{e: e})
}

func TestReadOfANilReader(t *testing.T) {
	for _, block := range []int{1, 0, -1, 65536, 4} {
		for _, depth := range []int{8, 3, 34, -1} {
			l, p, e := subframe.Read(nil, block, depth)
			if g := (got{l, p, e, 0}); !g.same(got{e: api.ErrNil}) {
				t.Error(block, depth, g)
			}
		}
	}
}

func TestReadOfBlocksAndDepthsThatMayNotBe(t *testing.T) {
	// What is wrong in the bits, and the end, come behind it.
	for _, s := range []string{"0 000000 0 00000000", "1 000000", "0 000010", ""} {
		for _, block := range append([]int{0, -1, -2, 65536, 65537, 1 << 17}, farNumbers...) {
			fails(t, api.ErrArg, s, block, 8)
		}
		for _, depth := range append([]int{-8, -1, 0, 1, 2, 3, 34, 35, 64}, farNumbers...) {
			fails(t, api.ErrArg, s, 1, depth)
		}
		fails(t, api.ErrArg, s, 0, 0)
	}
	reads(t, "0000000"+"0"+"1000", 65535, 4, got{slices.Repeat([]int{-8}, 65535), constant(0), api.OK, 12})
	reads(t, "0000000"+"0"+"1"+strings.Repeat("0", 32), 1, 33, got{[]int{-1 << 32}, constant(0), api.OK, 41})
}

func TestReadsByHand(t *testing.T) {
	for _, c := range []struct {
		s            string
		block, depth int
		l            []int
		p            subframe.Plan
	}{
		{"0 000000 1 01 000001", 3, 8, []int{4, 4, 4}, constant(2)},
		{"0 000000 0 1000", 1, 4, []int{-8}, constant(0)},
		{"0 000000 1 001 1", 2, 4, []int{-8, -8}, constant(3)},
		{"0 000000 1 001 0", 2, 4, []int{0, 0}, constant(3)},
		{"0 000001 0 0111 1000 0000 1111", 4, 4, []int{7, -8, 0, -1}, verbatim(0)},
		{"0 000001 1 1 011 100 000 111", 4, 4, []int{6, -8, 0, -2}, verbatim(1)},
		// Samples that have more, or are all the same, are what was told of them nonetheless.
		{"0 000001 0 0100 0100", 2, 4, []int{4, 4}, verbatim(0)},
		{"0 001000 0 00 0000 0001 10 11 010 0000010", 4, 4, []int{0, -1, 1, 5}, fixed(0, 0, coded(0, 1))},
		{"0 001001 0 00000101 00 0000 0000 001 1", 3, 8, []int{5, 6, 6}, fixed(1, 0, coded(0, 0))},
		{"0 001010 0 0011 0101 01 0000 00000 1 000001", 4, 4, []int{3, 5, 7, 6}, fixed(2, 0, coded(1, 0))},
		{"0 001011 0 000011 000101 001001 00 0000 1111 00000", 4, 6, []int{3, 5, 9, 15}, fixed(3, 0, raw(0, 0))},
		{"0 001100 0 000001 000010 000011 000100 00 0000 0000 01", 5, 6, []int{1, 2, 3, 4, 4}, fixed(4, 0, coded(0, 0))},
		{"0 001001 1 001 00101 00 0000 0000 001 1", 3, 8, []int{40, 48, 48}, fixed(1, 3, coded(0, 0))},
		{"0 001001 0 00000001 00 0001 0001 010 0010 0100 111", 4, 8, []int{1, 2, 4, 2}, fixed(1, 0, coded(0, 1, 2))},
		{"0 100001 0 00000010 00000100 0010 00001 011 111 00 0000 0000 1 001", 4, 8, []int{2, 4, 5, 6}, linear(0, telling(3, 1, 3, -1), coded(0, 0))},
		{"0 100000 0 0011 0000 00000 1 00 0000 0000 1 1", 3, 4, []int{3, -3, 3}, linear(0, telling(1, 0, -1), coded(0, 0))},
		{"0 100000 1 01 000011 0001 00001 01 00 0000 1111 00001 0 0", 3, 8, []int{12, 4, 0}, linear(2, telling(2, 1, 1), raw(0, 1))},
		{"0 100000 0 0011 1110 01111 100000000000000 00 0000 0000 1", 2, 4, []int{3, -2}, linear(0, telling(15, 15, -16384), coded(0, 0))},
	} {
		s := plain(c.s)
		want := got{c.l, c.p, api.OK, len(s)}
		for _, behind := range []string{"", "0", "1", "0101", "11111111111"} {
			reads(t, s+behind, c.block, c.depth, want)
		}
	}
}

func TestReadsNoFirstBitThatIsAOne(t *testing.T) {
	for _, s := range []string{"1", "1 0", "1 000000 0 00000000", "1 000010", "1 111111 1 1", "1 000001 1 00000000"} {
		fails(t, api.ErrForm, s, 1, 8)
		fails(t, api.ErrForm, s, 65535, 33)
	}
}

func TestReadsEachCode(t *testing.T) {
	zeros := strings.Repeat("0", 200)
	for code := range 64 {
		want := got{e: api.ErrCode}
		switch {
		case code <= 1:
			want = got{make([]int, 40), subframe.Plan{Kind: code}, api.OK, 8 + [2]int{4, 160}[code]}
		case code >= 8 && code <= 12:
			want.p.Kind, want.p.Order = subframe.Fixed, code-8
		case code >= 32:
			want.p.Kind, want.p.Order = subframe.Linear, code-31
		}
		// A code that no plan has is wrong whatever stands behind it.
		if want.e == api.ErrCode && want.p.Kind == 0 {
			for _, behind := range []string{"", "0", "1", zeros, "1" + zeros, strings.Repeat("1", 200)} {
				fails(t, api.ErrCode, "0"+digits(6, code)+behind, 40, 4)
			}
			continue
		}
		s := "0" + digits(6, code) + "0"
		if order := want.p.Order; want.p.Kind >= subframe.Fixed {
			s += strings.Repeat("0000", order)
			if want.p.Kind == subframe.Linear {
				want.p.Linear = telling(1, 0, make([]int, order)...)
				s += "0000" + "00000" + strings.Repeat("0", order)
			}
			s += "01" + "0000" + "11111" + "00000"
			want = got{make([]int, 40), want.p, api.OK, len(s)}
			want.p.Rice = raw(1, 0)
		}
		reads(t, s+zeros, 40, 4, want)
	}
}

func TestReadsEachWasted(t *testing.T) {
	for depth := 4; depth <= 33; depth++ {
		for wasted := 1; wasted <= 70; wasted++ {
			head := "0000000" + "1" + strings.Repeat("0", wasted-1)
			if wasted >= depth {
				// Ahead of the end: no bit is needed of a sample of no bits. Without a one there is no number.
				fails(t, api.ErrRange, head+"1", 1, depth)
				fails(t, api.ErrRange, head+"1"+strings.Repeat("1", 40), 7, depth)
				fails(t, api.ErrEnd, head, 1, depth)
				continue
			}
			own := depth - wasted
			low := "1" + strings.Repeat("0", own-1)
			reads(t, head+"1"+low, 2, depth, got{slices.Repeat([]int{least(depth)}, 2), constant(wasted), api.OK, len(head) + 1 + own})
			fails(t, api.ErrEnd, head+"1"+low[1:], 1, depth)
			fails(t, api.ErrEnd, head, 1, depth)
		}
		for _, n := range []int{1000, 65536, 65537, 100000} {
			head := "0000001" + "1" + strings.Repeat("0", n)
			fails(t, api.ErrRange, head+"1", 1, depth)
			fails(t, api.ErrEnd, head, 1, depth)
		}
	}
}

func TestReadsEachPrecision(t *testing.T) {
	for code := range 16 {
		head := "0" + "100001" + "0" + "0001" + "0010" + digits(4, code)
		low, high := "1"+strings.Repeat("0", code), "0"+strings.Repeat("1", code)
		tail := "00011" + low + high + "00" + "0000" + "1111" + "00000"
		if code == 15 {
			// Ahead of a wrong Shift, and of the end.
			for _, s := range []string{"", "1", "11111", tail} {
				fails(t, api.ErrCode, head+s, 3, 4)
			}
			continue
		}
		g := read(t, head+tail, 3, 4)
		p := linear(0, telling(code+1, 3, -1<<code, 1<<code-1), raw(0, 0))
		told := toldOf(p, []int{1, 2})
		if told < -8 || told > 7 {
			if !g.same(got{e: api.ErrRange}) {
				t.Error(code, told, g)
			}
			continue
		}
		if !g.same(got{[]int{1, 2, told}, p, api.OK, len(head + tail)}) {
			t.Error(code, told, g)
		}
	}
}

func TestReadsEachShift(t *testing.T) {
	for shift := range 32 {
		head := "0" + "100000" + "0" + "0101" + "0111" + digits(5, shift)
		tail := "01111111" + "00" + "0000" + "1111" + "00000"
		if shift >= 16 {
			for _, s := range []string{"", "1", tail} {
				fails(t, api.ErrRange, head+s, 2, 4)
			}
			continue
		}
		want := got{e: api.ErrRange}
		if x := 127 * 5 >> shift; x <= 7 {
			want = got{[]int{5, x}, linear(0, telling(8, shift, 127), raw(0, 0)), api.OK, len(head + tail)}
		}
		reads(t, head+tail, 2, 4, want)
	}
}

func TestReadsNoSampleBeyondItsDepth(t *testing.T) {
	for depth := 4; depth <= 33; depth++ {
		for wasted := range depth {
			own := depth - wasted
			if own < 2 {
				continue
			}
			head := headText(fixed(1, wasted, rice.Plan{}))
			up, down := "00"+"0000"+"0000"+"001", "00"+"0000"+"0000"+"01"
			highest, lowest := "0"+strings.Repeat("1", own-1), "1"+strings.Repeat("0", own-1)
			fails(t, api.ErrRange, head+highest+up, 2, depth)
			fails(t, api.ErrRange, head+lowest+down, 2, depth)
			p := fixed(1, wasted, coded(0, 0))
			by := 1 << wasted
			reads(t, head+highest+down, 2, depth, got{[]int{most(own) * by, (most(own) - 1) * by}, p, api.OK, len(head + highest + down)})
			reads(t, head+lowest+up, 2, depth, got{[]int{least(own) * by, (least(own) + 1) * by}, p, api.OK, len(head + lowest + up)})
		}
	}
	// The one that is wrong comes back into bounds, or all behind it are as far off.
	fails(t, api.ErrRange, "0 001001 0 0111 00 0000 0000 001 01 01", 4, 4)
	fails(t, api.ErrRange, "0 001001 0 0111 00 0000 0000 001 1 1", 4, 4)
	// Predictions that go beyond all bounds.
	s := "0" + "100000" + "0" + "0111" + "1110" + "00000" + "011111111111111" + "00" + "0000" + "1111" + "00000"
	wide := s[:8] + strings.Repeat("0", 29) + s[8:]
	for _, block := range []int{4, 5, 40, 65535} {
		fails(t, api.ErrRange, s, block, 4)
		fails(t, api.ErrRange, wide, block, 33)
	}
	fails(t, api.ErrRange, s, 2, 4)
	l := []int{7, 7 * 16383, 7 * 16383 * 16383}
	reads(t, wide, 3, 33, got{l, linear(0, telling(15, 0, 16383), raw(0, 0)), api.OK, len(wide)})
}

func TestASampleCountsBehindAllResiduals(t *testing.T) {
	// The second sample is 8, which is none of 4 bits; the error of what comes behind it is the first one nonetheless.
	head := "0 001001 0 0111 "
	for _, c := range []struct {
		s string
		e api.Errno
	}{
		{"00 0000 0000 001 1 1", api.ErrRange},
		{"00 0000 0000 001 1", api.ErrEnd},
		{"00 0000 0000 001", api.ErrEnd},
		{"00 0001 0000 001 0000 1", api.ErrEnd},
		{"00 0001 0000 001 0000 1 1", api.ErrRange},
		{"00 0001 0000 001 1111 0", api.ErrEnd},
		{"00 0001 0000 001 1111 00000", api.ErrRange},
		{"10 0000 0000 001 1 1", api.ErrCode},
		{"00 0011 0000 001 1 1", api.ErrForm},
		{"00 0000 0000 001 1" + strings.Repeat("0", 65537) + "1", api.ErrRange},
	} {
		fails(t, c.e, head+c.s, 4, 4)
	}
}

func TestReadsResidualsErrors(t *testing.T) {
	for _, c := range []struct {
		s            string
		block, depth int
		e            api.Errno
	}{
		{"0 001000 0 10", 2, 8, api.ErrCode},
		{"0 001000 0 11 0000 0000 1 1", 2, 8, api.ErrCode},
		{"0 001000 0 00 0001", 3, 8, api.ErrForm},
		{"0 001000 0 01 1111", 65535, 8, api.ErrForm},
		{"0 001000 0 00 0000 0000 " + strings.Repeat("0", 65537) + "1", 1, 33, api.ErrRange},
		{"0 001000 0 01 0000 11110 0001 111111111111111111111111111111", 1, 33, api.ErrRange},
		{"0 001000 0 01 0000 11110 0001 11111111111111111111111111111", 1, 33, api.ErrEnd},
		// As many samples as the Order, and fewer: those that are told come first, then what is wrong with the parts.
		{"0 001001 0 00000001 00 0000 0000 1", 1, 8, api.ErrForm},
		{"0 001001 0 00000001 10 0000 0000 1", 1, 8, api.ErrCode},
		{"0 001001 0 00000001 00 000", 1, 8, api.ErrEnd},
		{"0 001001 0 0000000", 1, 8, api.ErrEnd},
		{"0 001100 0 0001 0001 0001 0001 00 0000", 4, 4, api.ErrForm},
		{"0 001100 0 0001 0001 0001 0001 00 0000", 1, 4, api.ErrForm},
		{"0 001100 0 0001 0001 0001 000", 1, 4, api.ErrEnd},
		{"0 100001 0 0001 0001 0000 00000 0 0 00 0000", 2, 4, api.ErrForm},
		{"0 100001 0 0001 0001 0000 00000 0 0 00 0000", 1, 4, api.ErrForm},
		{"0 100001 0 0001 0001 1111 00000 0 0 00 0000", 1, 4, api.ErrCode},
		{"0 100001 0 0001 0001 0000 10000 0 0 00 0000", 1, 4, api.ErrRange},
		{"0 100001 0 0001 0001 0000 00000 0", 1, 4, api.ErrEnd},
		{"0 001001 0 0001 00 0001 0000 1 0000 1 1", 4, 4, api.OK},
		{"0 001010 0 0001 0001 00 0001 0000 1 0000 1 1", 4, 4, api.ErrForm},
	} {
		if g := read(t, plain(c.s), c.block, c.depth); g.e != c.e || c.e != api.OK && !g.same(got{e: c.e}) {
			t.Errorf("%.100s: %v, not %d", c.s, g, int(c.e))
		}
	}
}

func TestBitsRunOutAtEachPlace(t *testing.T) {
	rng := rand.New(rand.NewSource(6))
	seen := map[int]int{}
	for range 600 {
		c := randomChannel(rng)
		s := channelText(t, c.p, c.depth, c.l)
		if len(s) > 3000 {
			continue
		}
		for end := range len(s) {
			fails(t, api.ErrEnd, s[:end], len(c.l), c.depth)
		}
		reads(t, s, len(c.l), c.depth, got{c.l, c.p, api.OK, len(s)})
		seen[c.p.Kind]++
	}
	for kind := range 4 {
		if seen[kind] < 50 {
			t.Error("too few of the Kind", kind, seen[kind])
		}
	}
}

func TestReadsRandomBitsAsTheTextsSay(t *testing.T) {
	rng := rand.New(rand.NewSource(7))
	seen := map[api.Errno]int{}
	kinds := map[int]int{}
	for range 100000 {
		depth := 4 + rng.Intn(30)
		block := 1 + rng.Intn(20)
		b := make([]byte, rng.Intn(900))
		for i := range b {
			b[i] = '0' + byte(rng.Intn(2))
		}
		s := string(b)
		// Most begin as they have to, so that more is read.
		if rng.Intn(8) > 0 {
			s = "0" + []string{"000000", "000001", "001" + digits(3, rng.Intn(5)), "1" + digits(5, rng.Intn(32))}[rng.Intn(4)] + []string{"0", "1", "101", "10001"}[rng.Intn(4)] + s
		}
		want := readText(t, s, block, depth)
		reads(t, s, block, depth, want)
		seen[want.e]++
		if want.e == api.OK {
			kinds[want.p.Kind]++
		}
	}
	for _, e := range []api.Errno{api.OK, api.ErrCode, api.ErrForm, api.ErrRange, api.ErrEnd} {
		if seen[e] < 500 {
			t.Error("too few of the error", int(e), seen[e])
		}
	}
	for kind := range 3 {
		if kinds[kind] < 100 {
			t.Error("too few of the Kind", kind, kinds[kind])
		}
	}
}

func TestReadsDamagedChannelsAsTheTextsSay(t *testing.T) {
	rng := rand.New(rand.NewSource(8))
	seen := map[api.Errno]int{}
	for range 30000 {
		c := randomChannel(rng)
		b := []byte(channelText(t, c.p, c.depth, c.l))
		for range 1 + rng.Intn(3) {
			b[rng.Intn(min(len(b), 1+rng.Intn(len(b))))] ^= 1
		}
		want := readText(t, string(b), len(c.l), c.depth)
		reads(t, string(b), len(c.l), c.depth, want)
		seen[want.e]++
	}
	for _, e := range []api.Errno{api.OK, api.ErrCode, api.ErrForm, api.ErrRange, api.ErrEnd} {
		if seen[e] < 200 {
			t.Error("too few of the error", int(e), seen[e])
		}
	}
}

func TestReadsOneChannelBehindTheOther(t *testing.T) {
	rng := rand.New(rand.NewSource(9))
	var all []channel
	s := ""
	for range 200 {
		c := randomChannel(rng)
		all = append(all, c)
		s += channelText(t, c.p, c.depth, c.l)
	}
	r := readerOf(t, s)
	for i, c := range all {
		at := r.At()
		l, p, e := subframe.Read(r, len(c.l), c.depth)
		if g := (got{l, p, e, r.At() - at}); !g.same(got{c.l, c.p, api.OK, len(channelText(t, c.p, c.depth, c.l))}) {
			t.Fatal(i, g, c)
		}
		if i == 100 {
			// What is not to be read leaves it where it stands.
			at = r.At()
			if _, _, e := subframe.Read(r, 0, c.depth); e != api.ErrArg || r.At() != at {
				t.Fatal(int(e), r.At(), at)
			}
		}
	}
	if l, p, e := subframe.Read(r, 1, 8); r.Left() != 0 || len(l) != 0 || !same(p, subframe.Plan{}) || e != api.ErrEnd {
		t.Error(r.Left(), l, p, int(e))
	}
}

func TestWhatIsReadIsTheCallers(t *testing.T) {
	for _, c := range []channel{
		{constant(2), 8, []int{4, 4, 4, 4}},
		{verbatim(1), 8, []int{4, 6, -8, 2}},
		{fixed(1, 0, coded(0, 1, 2)), 8, []int{1, 2, 4, 2}},
		{linear(0, telling(3, 1, 3), raw(0, 5, 6)), 8, []int{1, 2, 4, 2}},
	} {
		w := bits.NewWriter()
		if e := subframe.Write(w, c.p, c.depth, c.l...); e != api.OK {
			t.Fatal(c, int(e))
		}
		b := w.Bytes()
		before := bytes.Clone(b)
		r := bits.NewReader(b)
		ask := func() got {
			r.Seek(0)
			l, p, e := subframe.Read(r, len(c.l), c.depth)
			return got{l, p, e, r.At()}
		}
		want := got{c.l, c.p, api.OK, w.Len()}
		g, other := ask(), ask()
		lists := [][]int{g.l, g.p.Linear.Coefs, g.p.Rice.Params, g.p.Rice.Bits}
		for _, l := range lists {
			// Also what is behind its length.
			l = append(l, 99, 99, 99)
			for i := range l {
				l[i] = 99
			}
		}
		if h := ask(); !other.same(want) || !h.same(want) || !bytes.Equal(b, before) {
			t.Error(c, other, h)
		}
		// No two lists of one answer share anything.
		h := ask()
		h.l = append(h.l, 7, 7, 7)[:len(h.l)]
		h.p.Linear.Coefs = append(h.p.Linear.Coefs, 8, 8, 8)[:len(h.p.Linear.Coefs)]
		h.p.Rice.Params = append(h.p.Rice.Params, 9, 9, 9)[:len(h.p.Rice.Params)]
		h.p.Rice.Bits = append(h.p.Rice.Bits, 10, 10, 10)[:len(h.p.Rice.Bits)]
		if !h.same(want) {
			t.Error(c, h)
		}
	}
}

func TestReadOfAnEmptyReader(t *testing.T) {
	for _, b := range [][]byte{nil, {}} {
		for _, block := range []int{1, 65535} {
			l, p, e := subframe.Read(bits.NewReader(b), block, 4)
			if g := (got{l, p, e, 0}); !g.same(got{e: api.ErrEnd}) {
				t.Error(block, g)
			}
		}
	}
	if l, _, e := subframe.Read(bits.NewReader([]byte{0xff}), math.MaxInt, math.MinInt); len(l) != 0 || e != api.ErrArg {
		t.Error(l, int(e))
	}
}
