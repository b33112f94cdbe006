package rice_test

import (
	"bytes"
	"math"
	"math/rand"
	"strings"
	"testing"

	"jetsam/api"
	"jetsam/bits"
	"jetsam/rice"
)

// P5.3.

func TestReadOfANilReader(t *testing.T) {
	for _, block := range []int{1, 0, -1, 65536, 4} {
		for _, skip := range []int{0, 33, -1} {
			if l, p, e := rice.Read(nil, block, skip); len(l) != 0 || !same(p, rice.Plan{}) || e != api.ErrNil {
				t.Error(block, skip, l, p, int(e))
			}
		}
	}
}

func TestReadOfBlocksThatMayNotBe(t *testing.T) {
	for _, c := range [][2]int{{0, 0}, {-1, 0}, {65536, 0}, {math.MinInt, 0}, {math.MaxInt, 0}, {40, -1}, {40, 33}, {40, math.MinInt}, {40, math.MaxInt}, {0, 33}} {
		// The wrong Method, and the end, come behind it.
		for _, s := range []string{"00 0000 0000 1111111111111111111111111111111111111111", "10 0000", ""} {
			s = strings.ReplaceAll(s, " ", "")
			if g := read(t, s, c[0], c[1]); !g.same(got{e: api.ErrArg}) {
				t.Error(c, s, g)
			}
		}
	}
}

func TestReadsByHand(t *testing.T) {
	for _, c := range []struct {
		s           string
		block, skip int
		want        got
	}{
		// What is written, and what stands behind it.
		{"00 0000 0001 10 11 010 0000010", 4, 0, got{[]int{0, -1, 1, 5}, planOf(0, coded(1)), api.OK, 24}},
		{"00 0000 0001 10 11 010 0000010 0110", 4, 0, got{[]int{0, -1, 1, 5}, planOf(0, coded(1)), api.OK, 24}},
		{"00 0000 0001 10 11 010 0000010", 3, 0, got{[]int{0, -1, 1}, planOf(0, coded(1)), api.OK, 17}},
		{"00 0000 0001 10 11 010 0000010", 7, 3, got{[]int{0, -1, 1, 5}, planOf(0, coded(1)), api.OK, 24}},
		{"00 0000 0001 11", 33, 32, got{[]int{-1}, planOf(0, coded(1)), api.OK, 12}},
		{"01 0000 11111 00000", 5, 0, got{make([]int, 5), planOf(1, raw(0)), api.OK, 16}},
		{"01 0000 11111 00000", 65535, 0, got{make([]int, 65535), planOf(1, raw(0)), api.OK, 16}},
		{"00 0000 1111 00000", 65535, 32, got{make([]int, 65503), planOf(0, raw(0)), api.OK, 15}},
		{"01 0001 11111 00010 01 00000 001 01", 4, 1, got{[]int{1, 1, -1}, planOf(1, raw(2), coded(0)), api.OK, 28}},

		// The code of a Raw part of the one Method is a parameter of the other one.
		{"01 0000 01111 1 000000000000011", 1, 0, got{[]int{-2}, planOf(1, coded(15)), api.OK, 27}},
		{"00 0000 1111 11111 1" + strings.Repeat("0", 30), 1, 0, got{[]int{-1 << 30}, planOf(0, raw(31)), api.OK, 46}},

		// A Method of 2 and 3, whatever is behind it; and what is not parted.
		{"10", 1, 0, got{e: api.ErrCode}},
		{"11", 1, 0, got{e: api.ErrCode}},
		{"10 0000 0000 1", 1, 0, got{e: api.ErrCode}},
		{"11 1111", 1, 0, got{e: api.ErrCode}},
		{"00 0001", 1, 0, got{e: api.ErrForm}},
		{"00 0001 0000 1 0000 11", 3, 0, got{e: api.ErrForm}},
		{"01 1111", 16384, 0, got{e: api.ErrForm}},
		{"01 1111", 32768, 1, got{e: api.ErrForm}},
		{"01 0000 00000 1", 1, 1, got{e: api.ErrForm}},
		{"01 0000", 5, 32, got{e: api.ErrForm}},
		{"00 0001", 4, 2, got{e: api.ErrForm}},
		{"00 0001", 4, 1, got{e: api.ErrEnd}},

		// Residuals at the bounds, and beyond.
		{"01 0000 11110 0001 111111111111111111111111111110", 1, 0, got{[]int{1<<31 - 1}, planOf(1, coded(30)), api.OK, 45}},
		{"01 0000 11110 0001 111111111111111111111111111101", 1, 0, got{[]int{1 - 1<<31}, planOf(1, coded(30)), api.OK, 45}},
		{"01 0000 11110 0001 111111111111111111111111111111", 1, 0, got{e: api.ErrRange}},
		{"01 0000 11110 00001 000000000000000000000000000000", 1, 0, got{e: api.ErrRange}},
		{"01 0000 11110 00001 000000000000000000000000000000", 2, 0, got{e: api.ErrRange}},
		{"01 0000 11110 00001 00000000000000000000000000000", 1, 0, got{e: api.ErrEnd}},
		{"01 0000 11110 1 000000000000000000000000000000 0001 111111111111111111111111111111", 2, 0, got{e: api.ErrRange}},

		// The end.
		{"", 1, 0, got{e: api.ErrEnd}},
		{"1", 1, 0, got{e: api.ErrEnd}},
		{"00", 1, 0, got{e: api.ErrEnd}},
		{"00 111", 1, 0, got{e: api.ErrEnd}},
		{"00 0000", 1, 0, got{e: api.ErrEnd}},
		{"00 0000 111", 1, 0, got{e: api.ErrEnd}},
		{"01 0000 1111", 1, 0, got{e: api.ErrEnd}},
		{"00 0000 1111", 1, 0, got{e: api.ErrEnd}},
		{"00 0000 1111 0000", 1, 0, got{e: api.ErrEnd}},
		{"00 0000 1111 00001", 1, 0, got{e: api.ErrEnd}},
		{"00 0000 0000", 1, 0, got{e: api.ErrEnd}},
		{"00 0000 0000 0000", 1, 0, got{e: api.ErrEnd}},
		{"00 0000 0010 01 1", 1, 0, got{e: api.ErrEnd}},
		{"00 0001 0000 1", 2, 0, got{e: api.ErrEnd}},
	} {
		if g := read(t, strings.ReplaceAll(c.s, " ", ""), c.block, c.skip); !g.same(c.want) {
			if len(g.l)+len(c.want.l) > 20 {
				t.Fatal(c.s, g.e, g.used)
			}
			t.Errorf("%s: %v, not %v", c.s, g, c.want)
		}
	}
}

func TestReadsUnaryNumbersUpToABound(t *testing.T) {
	for method := range 2 {
		for param := 0; param <= 14; param++ {
			head := digits(2, method) + "0000" + digits(4+method, param)
			low := strings.Repeat("1", param)
			s := head + strings.Repeat("0", 65536) + "1" + low
			g, want := read(t, s, 1, 0), readText(s, 1, 0)
			if want.e != api.OK || !g.same(want) {
				t.Fatal(method, param, g, want)
			}
			for _, n := range []int{65537, 65538, 70000, 131072} {
				// Even where the last bits run out: the unary number comes first.
				for _, behind := range []string{low, "", low + "1"} {
					s := head + strings.Repeat("0", n) + "1" + behind
					if g := read(t, s, 1, 0); !g.same(got{e: api.ErrRange}) {
						t.Fatal(method, param, n, len(behind), int(g.e))
					}
				}
			}
			// Noughts with no one behind them are no number.
			if g := read(t, head+strings.Repeat("0", 70000), 1, 0); !g.same(got{e: api.ErrEnd}) {
				t.Fatal(method, param, int(g.e))
			}
		}
		// A residual is beyond the bound ahead of its unary number.
		s := "01" + "0000" + "11110" + strings.Repeat("0", 65536) + "1" + strings.Repeat("1", 30)
		if g := read(t, s, 1, 0); !g.same(got{e: api.ErrRange}) {
			t.Fatal(int(g.e))
		}
	}
}

func TestTheFirstErrorCounts(t *testing.T) {
	tooGreat := "00001" + strings.Repeat("0", 30)
	for _, c := range []struct {
		s string
		e api.Errno
	}{
		// A residual that may not be, and the end behind it: in its part, and in the next one.
		{"01 0001 11110" + tooGreat, api.ErrRange},
		{"01 0001 11110" + tooGreat + "0000", api.ErrRange},
		{"01 0001 11110 1" + strings.Repeat("0", 30) + tooGreat, api.ErrRange},
		// The end, where a residual that may not be would come.
		{"01 0001 11110 1" + strings.Repeat("0", 30) + tooGreat[:34], api.ErrEnd},
		{"01 0001 11110 1" + strings.Repeat("0", 30) + tooGreat[:4], api.ErrEnd},
		{"00 0001 0000 1 1 0000" + strings.Repeat("0", 65537) + "1", api.ErrRange},
		{"00 0001 0000 1 1 0000 1" + strings.Repeat("0", 65537) + "1", api.ErrRange},
		{"00 0001 0000 1 1 0000 1" + strings.Repeat("0", 65536) + "1", api.OK},
		{"00 0001 0000 1 1 0000 1" + strings.Repeat("0", 65536), api.ErrEnd},
	} {
		s := strings.ReplaceAll(c.s, " ", "")
		g := read(t, s, 4, 0)
		if g.e != c.e || g.e != api.OK && !g.same(got{e: c.e}) {
			t.Errorf("%.60s: error %d, not %d", c.s, int(g.e), int(c.e))
		}
	}
}

func TestBitsRunOutAtEachPlace(t *testing.T) {
	rng := rand.New(rand.NewSource(5))
	for range 200 {
		block, order, skip := randomBlock(rng, 3)
		about := rng.Intn(8)
		p, l := randomPlan(rng, order, about), randomResiduals(rng, block-skip, about)
		s, may := blockText(p, skip, l)
		if !may {
			t.Fatal(p, l)
		}
		for end := range len(s) {
			if g := read(t, s[:end], block, skip); !g.same(got{e: api.ErrEnd}) {
				t.Fatalf("%s of %s: %v", s[:end], s, g)
			}
		}
		if g := read(t, s, block, skip); !g.same(got{l, p, api.OK, len(s)}) {
			t.Fatal(s, g)
		}
	}
}

func TestReadsRandomBitsAsTheTextsSay(t *testing.T) {
	rng := rand.New(rand.NewSource(6))
	seen := map[api.Errno]int{}
	for range 100000 {
		block, order, skip := randomBlock(rng, 3)
		b := make([]byte, rng.Intn(60))
		for i := range b {
			b[i] = '0' + byte(rng.Intn(2))
		}
		s := string(b)
		// Most begin as they have to, so that residuals are read.
		if rng.Intn(6) > 0 {
			s = digits(2, rng.Intn(2)) + digits(4, order) + s
		}
		// Some have a great parameter, or great unary numbers.
		if rng.Intn(3) == 0 {
			s = "01" + digits(4, order) + digits(5, 26+rng.Intn(6)) + strings.Repeat("0", rng.Intn(60)) + s
		}
		g, want := read(t, s, block, skip), readText(s, block, skip)
		if !g.same(want) {
			t.Fatalf("%s (%d, %d): %v, not %v", s, block, skip, g, want)
		}
		seen[g.e]++
	}
	for _, e := range []api.Errno{api.OK, api.ErrCode, api.ErrForm, api.ErrRange, api.ErrEnd} {
		if seen[e] < 500 {
			t.Error("too few of the error", int(e), seen[e])
		}
	}
}

func TestReadsOneBlockBehindTheOther(t *testing.T) {
	rng := rand.New(rand.NewSource(7))
	w := bits.NewWriter()
	type one struct {
		p    rice.Plan
		skip int
		l    []int
	}
	var all []one
	for range 300 {
		block, order, skip := randomBlock(rng, 3)
		c := one{randomPlan(rng, order, 5), skip, randomResiduals(rng, block-skip, 5)}
		if e := rice.Write(w, c.p, c.skip, c.l...); e != api.OK {
			t.Fatal(c, int(e))
		}
		all = append(all, c)
	}
	r := bits.NewReader(w.Bytes())
	for i, c := range all {
		at := r.At()
		l, p, e := rice.Read(r, len(c.l)+c.skip, c.skip)
		size, _ := rice.Size(c.p, c.skip, c.l...)
		if g := (got{l, p, e, r.At() - at}); !g.same(got{c.l, c.p, api.OK, size}) {
			t.Fatal(i, g, c)
		}
	}
}

func TestWhatIsReadIsTheCallers(t *testing.T) {
	b := bytesOf(t, strings.ReplaceAll("01 0001 11111 00010 01 01 00000 001 01 0110", " ", ""))
	before := bytes.Clone(b)
	r := bits.NewReader(b)
	ask := func() got {
		r.Seek(0)
		l, p, e := rice.Read(r, 4, 0)
		return got{l, p, e, r.At()}
	}
	want := got{[]int{1, 1, 1, -1}, planOf(1, raw(2), coded(0)), api.OK, 30}
	g, other := ask(), ask()
	// What is written into one list, or behind its length, is seen in no other one.
	for _, l := range [][]int{g.l, g.p.Params, g.p.Bits} {
		l = append(l, 99, 99, 99)
		for i := range l {
			l[i] = 99
		}
	}
	h := ask()
	if !other.same(want) || !h.same(want) || !bytes.Equal(b, before) {
		t.Error(other, h, b)
	}
	h.l = append(h.l, 7, 7, 7)
	h.p.Params = append(h.p.Params, 8, 8, 8)
	h.p.Bits = append(h.p.Bits, 9, 9, 9)
	h.l, h.p.Params, h.p.Bits = h.l[:4], h.p.Params[:2], h.p.Bits[:2]
	if !h.same(want) {
		t.Error(h)
	}
}
