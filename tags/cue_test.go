package tags_test

import (
	"bytes"
	"math"
	"math/rand"
	"slices"
	"strings"
	"testing"

	"jetsam/api"
	"jetsam/tags"
)

// P13.1 and P13.2, of cue sheets.

// Where the parts of a cue sheet's bytes are, and of a track's and an index's; and how many there are.
const (
	catalogEnd, leadEnd, flagsAt, gapEnd, headEnd = 128, 136, 136, 395, 396
	numberAt, codeAt, trackFlagsAt, manyAt        = 8, 9, 21, 35
	trackSize, indexSize                          = 36, 12
)

// sheet is a cue sheet with all there may be in it.
func sheet() tags.Cue {
	return tags.Cue{Catalog: "1234567890123", Lead: 88200, Disc: true, L: []tags.Track{
		{Offset: 0, Number: 1, Code: "ABCDE1234567", Pre: true, L: []tags.Index{{0, 0}, {588, 1}}},
		{Offset: 1 << 40, Number: 2, Data: true, L: []tags.Index{{7, 255}}},
		{Offset: 1<<63 - 1, Number: 170, Code: "000000000000", Data: true, Pre: true},
	}}
}

// plain is a cue sheet of so many tracks, each but the last one with one index.
func plain(many int) (c tags.Cue) {
	for n := range many {
		c.L = append(c.L, tags.Track{Offset: n * 1000, Number: n + 1, L: []tags.Index{{Number: 1}}})
	}
	if many > 0 {
		c.L[many-1].L = nil
	}
	return c
}

// but is a cue sheet that was changed.
func but(c tags.Cue, change func(c *tags.Cue)) tags.Cue {
	c = cloneCue(c)
	change(&c)
	return c
}

func TestCuesByHand(t *testing.T) {
	for _, k := range []struct {
		c tags.Cue
		s string
	}{
		{tags.Cue{L: []tags.Track{{Number: 1}}}, zeros(395) + "\x01" + zeros(8) + "\x01" + zeros(12) + "\x00" + zeros(13) + "\x00"},
		{tags.Cue{Catalog: "abc", Lead: 0x10203, Disc: true, L: []tags.Track{{Offset: 5, Number: 255, Data: true}}},
			"abc" + zeros(125) + zeros(5) + "\x01\x02\x03" + "\x80" + zeros(258) + "\x01" + zeros(7) + "\x05\xff" + zeros(12) + "\x80" + zeros(13) + "\x00"},
		{tags.Cue{L: []tags.Track{{Offset: 256, Number: 7, Code: "A0Z9B1Y8C2X7", Pre: true, L: []tags.Index{{Offset: 588, Number: 1}, {Offset: 1 << 56, Number: 2}}}, {Number: 170, Data: true, Pre: true}}},
			zeros(395) + "\x02" + zeros(6) + "\x01\x00\x07A0Z9B1Y8C2X7\x40" + zeros(13) + "\x02" + zeros(6) + "\x02\x4c\x01" + zeros(3) + "\x01" + zeros(7) + "\x02" + zeros(3) +
				zeros(8) + "\xaa" + zeros(12) + "\xc0" + zeros(13) + "\x00"},
	} {
		if b := cues.both(t, k.c); string(b) != k.s {
			t.Errorf("%v: %q", k.c, b)
		}
		if c := cues.reads(t, api.OK, []byte(k.s)); !sameCue(c, k.c) {
			t.Errorf("%q: %v", k.s, c)
		}
	}
	cues.both(t, sheet())
}

func TestCuesOfNoTracks(t *testing.T) {
	cues.writes(t, api.ErrNone, tags.Cue{})
	cues.writes(t, api.ErrNone, tags.Cue{Catalog: "123", Lead: 88200, Disc: true, L: []tags.Track{}})
	cues.reads(t, api.ErrNone, []byte(zeros(headEnd)))
	cues.reads(t, api.ErrNone, []byte("123"+zeros(headEnd-3)))
}

func TestHowManyTracksThereAre(t *testing.T) {
	for many := 1; many <= 101; many++ {
		c := plain(many)
		if many <= 100 {
			if b := cues.both(t, c); len(b) != headEnd+many*trackSize+(many-1)*indexSize || int(b[gapEnd]) != many {
				t.Error(many, len(b))
			}
			continue
		}
		cues.writes(t, api.ErrRange, c)
		cues.reads(t, api.ErrRange, bytesOfCue(c))
	}
	for _, many := range []int{102, 200, 255, 256, 257, 356, 1000} {
		c := plain(many)
		for n := range c.L {
			c.L[n].Number = 1 + n%255
		}
		cues.writes(t, api.ErrRange, c)
		if many < 256 {
			cues.reads(t, api.ErrRange, bytesOfCue(c))
		}
	}
}

func TestHowManyIndexesATrackHas(t *testing.T) {
	for _, many := range []int{0, 1, 2, 99, 100, 101, 200, 255, 256, 257, 356} {
		for at := range 3 {
			c := but(plain(3), func(c *tags.Cue) { c.L[at].L = make([]tags.Index, many) })
			want := api.OK
			if at < 2 && (many < 1 || many > 100) || at == 2 && many != 0 {
				want = api.ErrRange
			}
			cues.writes(t, want, c)
			if many < 256 {
				cues.reads(t, want, bytesOfCue(c))
			}
		}
		// The first one is the last one.
		want := api.OK
		if many != 0 {
			want = api.ErrRange
		}
		cues.writes(t, want, tags.Cue{L: []tags.Track{{Number: 1, L: make([]tags.Index, many)}}})
	}
	// As many as there may be of all.
	c := plain(100)
	for n := range c.L[:99] {
		c.L[n].L = make([]tags.Index, 100)
		for k := range c.L[n].L {
			c.L[n].L[k] = tags.Index{Offset: n*1000 + k, Number: k}
		}
	}
	cues.both(t, c)
}

func TestNumbersOfCues(t *testing.T) {
	for _, k := range []struct {
		name        string
		least, most int
		set         func(c *tags.Cue, n int)
	}{
		{"lead", 0, math.MaxInt, func(c *tags.Cue, n int) { c.Lead = n }},
		{"offset of the first track", 0, math.MaxInt, func(c *tags.Cue, n int) { c.L[0].Offset = n }},
		{"offset of the last track", 0, math.MaxInt, func(c *tags.Cue, n int) { c.L[2].Offset = n }},
		{"number of the first track", 1, 255, func(c *tags.Cue, n int) { c.L[0].Number = n }},
		{"number of the last track", 1, 255, func(c *tags.Cue, n int) { c.L[2].Number = n }},
		{"offset of the first index", 0, math.MaxInt, func(c *tags.Cue, n int) { c.L[0].L[0].Offset = n }},
		{"offset of the last index", 0, math.MaxInt, func(c *tags.Cue, n int) { c.L[1].L[0].Offset = n }},
		{"number of the first index", 0, 255, func(c *tags.Cue, n int) { c.L[0].L[0].Number = n }},
		{"number of the second index", 0, 255, func(c *tags.Cue, n int) { c.L[0].L[1].Number = n }},
		{"number of the last index", 0, 255, func(c *tags.Cue, n int) { c.L[1].L[0].Number = n }},
	} {
		base := but(sheet(), func(c *tags.Cue) {
			for n := range c.L {
				c.L[n].Number = 20 + n
			}
		})
		for _, n := range append([]int{0, 1, 2, 9, 100, 127, 128, 254, 255, 256, 257, 511, 1<<31 - 1, 1 << 31, 1<<32 - 1, 1 << 32, 1<<32 + 1, 1 << 62, math.MaxInt - 1, math.MaxInt}, farNumbers...) {
			c := but(base, func(c *tags.Cue) { k.set(c, n) })
			if n < k.least || n > k.most {
				if b, e := c.Write(); len(b) != 0 || e != api.ErrRange {
					t.Error(k.name, n, int(e))
				}
				cues.writes(t, api.ErrRange, c)
				continue
			}
			cues.both(t, c)
		}
	}
}

func TestReadsNumbersOfCuesThatAreTooGreat(t *testing.T) {
	b := cues.both(t, sheet())
	offsets := []int{catalogEnd, headEnd, headEnd + trackSize, headEnd + trackSize + indexSize, headEnd + trackSize + 2*indexSize, len(b) - trackSize}
	for _, at := range offsets {
		cues.reads(t, api.ErrRange, changed(b, at, 0x80))
		cues.reads(t, api.ErrRange, changed(b, at, 0xff))
		cues.reads(t, api.OK, changed(b, at, 0x7f))
		all := bytes.Clone(b)
		copy(all[at:], "\xff\xff\xff\xff\xff\xff\xff\xff")
		cues.reads(t, api.ErrRange, all)
		all[at] = 0x7f
		cues.reads(t, api.OK, all)
	}
	for _, at := range []int{headEnd, headEnd + trackSize + 2*indexSize, len(b) - trackSize} {
		cues.reads(t, api.ErrRange, changed(b, at+numberAt, 0))
		cues.reads(t, api.OK, changed(b, at+numberAt, 255))
	}
	cues.reads(t, api.OK, changed(b, headEnd+trackSize+numberAt, 255))
	cues.reads(t, api.OK, changed(b, headEnd+trackSize+numberAt, 0))
}

func TestCatalogs(t *testing.T) {
	long := strings.Repeat("0123456789abcdef", 9)
	for n := range len(long) {
		c := but(sheet(), func(c *tags.Cue) { c.Catalog = long[:n] })
		if n <= 128 {
			b := cues.both(t, c)
			if string(b[:catalogEnd]) != long[:n]+zeros(128-n) {
				t.Errorf("%d: %q", n, b[:catalogEnd])
			}
			continue
		}
		cues.writes(t, api.ErrForm, c)
	}
	for x := range 256 {
		letter := string([]byte{byte(x)})
		want := api.OK
		if x < 32 || x > 126 {
			want = api.ErrForm
		}
		for _, s := range []string{letter, "1" + letter, letter + "1", strings.Repeat("1", 127) + letter, letter + strings.Repeat("1", 127)} {
			c := but(sheet(), func(c *tags.Cue) { c.Catalog = s })
			cues.writes(t, want, c)
			if !strings.HasSuffix(s, "\x00") {
				cues.reads(t, want, bytesOfCue(c))
			}
		}
	}
	for _, s := range []string{"é", "\u0131", "\ufffd", "1\x002", strings.Repeat("é", 64), strings.Repeat("1", 1<<16)} {
		cues.writes(t, api.ErrForm, but(sheet(), func(c *tags.Cue) { c.Catalog = s }))
	}
}

func TestCodes(t *testing.T) {
	for at := range 3 {
		with := func(s string) tags.Cue { return but(sheet(), func(c *tags.Cue) { c.L[at].Code = s }) }
		for n := range 30 {
			want := api.ErrForm
			if n == 0 || n == 12 {
				want = api.OK
			}
			c := with(strings.Repeat("A1", 15)[:n])
			cues.writes(t, want, c)
			if n <= 12 {
				cues.reads(t, want, bytesOfCue(c))
			}
		}
		for x := range 256 {
			letter := string([]byte{byte(x)})
			want := api.ErrForm
			if strings.Contains("ABCDEFGHIJKLMNOPQRSTUVWXYZ0123456789", letter) {
				want = api.OK
			}
			for n := range 12 {
				s := strings.Repeat("A", n) + letter + strings.Repeat("1", 11-n)
				cues.writes(t, want, with(s))
				cues.reads(t, want, bytesOfCue(with(s)))
			}
		}
		for _, s := range []string{zeros(12), "\x00", "ABCDE123456é", "ABCDE12345é", "ÀBCDE123456", "\uff11BCDE12345", "abcde1234567", "ABCDE123456\n", "ABCDE1234567\n"} {
			cues.writes(t, api.ErrForm, with(s))
		}
	}
}

func TestNoughtsThatStandBehindNothing(t *testing.T) {
	b := cues.both(t, sheet())
	// Noughts ahead of letters, or among them.
	for n := range 13 {
		want := api.ErrForm
		if n == 12 {
			want = api.OK // the last one of Catalog: what is left has one letter less
		}
		cues.reads(t, want, changed(b, n, 0))
	}
	for n := range trackFlagsAt - codeAt {
		// Of a Code, one letter less is none.
		cues.reads(t, api.ErrForm, changed(b, headEnd+codeAt+n, 0))
	}
	cues.reads(t, api.ErrForm, changed(b, catalogEnd-1, '1'))
	cues.reads(t, api.ErrForm, changed(b, headEnd+trackSize+2*indexSize+codeAt+5, 'A'))
	// All of them are 0: there is none.
	k := bytes.Clone(b)
	clear(k[:catalogEnd])
	clear(k[headEnd+codeAt : headEnd+trackFlagsAt])
	c := cues.reads(t, api.OK, k)
	if c.Catalog != "" || c.L[0].Code != "" {
		t.Error(c)
	}
}

func TestNoughtsThatAreNone(t *testing.T) {
	b := cues.both(t, sheet())
	var gaps []int
	span := func(from, many int) {
		for n := range many {
			gaps = append(gaps, from+n)
		}
	}
	span(flagsAt+1, 258)
	for _, at := range []int{headEnd, headEnd + trackSize + 2*indexSize, len(b) - trackSize} {
		span(at+trackFlagsAt+1, 13)
	}
	for _, at := range []int{headEnd + trackSize, headEnd + trackSize + indexSize, headEnd + 2*trackSize + 2*indexSize} {
		span(at+numberAt+1, 3)
	}
	for _, at := range gaps {
		for _, x := range []byte{1, 64, 128, 255} {
			cues.reads(t, api.ErrForm, changed(b, at, x))
		}
	}
}

func TestFlagsOfCues(t *testing.T) {
	b := cues.both(t, sheet())
	for x := range 256 {
		want := api.ErrForm
		if x == 0 || x == 128 {
			want = api.OK
		}
		if c := cues.reads(t, want, changed(b, flagsAt, byte(x))); c.Disc != (x == 128) {
			t.Error(x, c.Disc)
		}
		for n, at := range []int{headEnd, headEnd + trackSize + 2*indexSize, len(b) - trackSize} {
			want = api.ErrForm
			if x%64 == 0 {
				want = api.OK
			}
			c := cues.reads(t, want, changed(b, at+trackFlagsAt, byte(x)))
			if want == api.OK && (c.L[n].Data != (x >= 128) || c.L[n].Pre != (x == 64 || x == 192)) {
				t.Error(x, c.L[n])
			}
		}
	}
	for n := range 8 {
		c := tags.Cue{Disc: n&1 > 0, L: []tags.Track{{Number: 1, Data: n&2 > 0, Pre: n&4 > 0}}}
		if b := cues.both(t, c); int(b[flagsAt]) != n&1*128 || int(b[headEnd+trackFlagsAt]) != n&2*64+n&4*16 {
			t.Error(n, b[flagsAt], b[headEnd+trackFlagsAt])
		}
	}
}

func TestTracksOfOneNumber(t *testing.T) {
	for _, many := range []int{2, 3, 10, 100} {
		base := plain(many)
		for n := range many {
			for _, k := range []int{0, 1, many - 2, many - 1} {
				c := but(base, func(c *tags.Cue) { c.L[n].Number = c.L[k].Number })
				want := api.ErrMany
				if n == k {
					want = api.OK
				}
				cues.writes(t, want, c)
				cues.reads(t, want, bytesOfCue(c))
			}
		}
	}
	// In what order they stand is not asked, nor whether indexes have one Number.
	cues.both(t, but(plain(4), func(c *tags.Cue) { c.L[0].Number, c.L[1].Number = 9, 7 }))
	cues.both(t, but(plain(4), func(c *tags.Cue) { c.L[0].L = []tags.Index{{5, 1}, {3, 1}, {5, 1}} }))
	all := but(plain(100), func(c *tags.Cue) {
		for n := range c.L {
			c.L[n].Number = 255 - n
		}
	})
	cues.both(t, all)
}

// reason is what is changed in a cue sheet, and why it may not be written then.
type reason struct {
	e      api.Errno
	change func(c *tags.Cue)
}

func TestSeveralReasonsOfCues(t *testing.T) {
	last := func(c *tags.Cue) *tags.Track {
		if len(c.L) == 0 {
			return &tags.Track{}
		}
		return &c.L[len(c.L)-1]
	}
	reasons := []reason{
		{api.ErrNone, func(c *tags.Cue) { c.L = nil }},
		{api.ErrRange, func(c *tags.Cue) { c.Lead = -1 }},
		{api.ErrRange, func(c *tags.Cue) { last(c).Offset = -1 }},
		{api.ErrRange, func(c *tags.Cue) { last(c).L = make([]tags.Index, 1) }},
		{api.ErrForm, func(c *tags.Cue) { c.Catalog = "\x1f" }},
		{api.ErrForm, func(c *tags.Cue) {
			if len(c.L) > 0 {
				c.L[0].Code = "a"
			}
		}},
		{api.ErrForm, func(c *tags.Cue) { last(c).Code = "0123456789A" }},
		{api.ErrMany, func(c *tags.Cue) {
			if len(c.L) > 1 {
				c.L[1].Number = c.L[0].Number
			}
		}},
	}
	for n := range 1 << len(reasons) {
		want := api.OK
		c := sheet()
		for k, r := range reasons {
			if n>>k&1 == 0 {
				continue
			}
			r.change(&c)
			if want == api.OK {
				want = r.e
			}
		}
		cues.writes(t, want, c)
		cues.reads(t, want, bytesOfCue(c))
	}
}

func TestTheEndIsToldFirst(t *testing.T) {
	b := cues.both(t, sheet())
	wrong := [][]byte{
		changed(b, flagsAt, 1), changed(b, flagsAt+1, 1), changed(b, headEnd+trackFlagsAt, 1), changed(b, headEnd+trackFlagsAt+1, 1),
		changed(b, headEnd+trackSize+numberAt+1, 1), changed(b, 0, 0), changed(b, 0, 0x1f), changed(b, catalogEnd, 0x80),
		changed(b, headEnd+numberAt, 0), changed(b, headEnd+codeAt, 'a'), changed(b, headEnd+numberAt, 2),
	}
	for _, k := range wrong {
		cues.ends(t, k)
		// Then what is behind it, as noughts and flags.
		cues.reads(t, api.ErrForm, append(bytes.Clone(k), 0))
	}
	// Flags, and noughts, are told ahead of all that Write tells.
	for _, k := range wrong {
		cues.reads(t, api.ErrForm, changed(k, len(b)-2, 1))
		cues.reads(t, api.ErrForm, changed(k, flagsAt, 129))
	}
	cues.reads(t, api.ErrForm, changed([]byte(zeros(headEnd)), flagsAt, 1))
	cues.reads(t, api.ErrForm, []byte(zeros(headEnd+1)))
	// A nought within is told where Write tells what is no letter.
	cues.reads(t, api.ErrNone, append([]byte("a\x00b"), zeros(headEnd-3)...))
	cues.reads(t, api.ErrRange, changed(changed(b, 0, 0), catalogEnd, 0x80))
	cues.reads(t, api.ErrForm, changed(changed(b, 0, 0), headEnd+numberAt, 2))
}

func TestReadsCuesThatEnd(t *testing.T) {
	cues.reads(t, api.ErrEnd, nil)
	for _, c := range []tags.Cue{sheet(), plain(1), plain(2), plain(20)} {
		b := cues.both(t, c)
		cues.ends(t, b)
		for _, behind := range []string{"\x00", "\xff", zeros(trackSize), zeros(indexSize), string(b)} {
			cues.reads(t, api.ErrForm, append(bytes.Clone(b), behind...))
		}
		// A track more, or less, than there are.
		cues.reads(t, api.ErrEnd, changed(b, gapEnd, b[gapEnd]+1))
		cues.reads(t, api.ErrEnd, changed(b, gapEnd, 255))
		cues.reads(t, api.ErrForm, changed(b, gapEnd, b[gapEnd]-1))
		cues.reads(t, api.ErrEnd, changed(b, len(b)-1, 1))
	}
}

func TestReadsAnyCues(t *testing.T) {
	rng := rand.New(rand.NewSource(6))
	told := map[api.Errno]int{}
	for range 40000 {
		c := randomCue(rng)
		if rng.Intn(12) == 0 {
			c.L[0].Number = c.L[rng.Intn(len(c.L))].Number
		}
		b := bytesOfCue(c)
		if rng.Intn(12) == 0 {
			b[gapEnd] = 0
			b = b[:headEnd]
		}
		for range rng.Intn(3) {
			at := some(rng, 0, catalogEnd, flagsAt, headEnd+numberAt, headEnd+codeAt, len(b)-trackSize+numberAt, len(b)-trackSize+codeAt+3, len(b)-1, rng.Intn(len(b)))
			if at < len(b) {
				b[at] = byte(some(rng, 0, 0, 1, 64, 'A', 128, 255))
			}
		}
		if rng.Intn(10) == 0 {
			b = b[:rng.Intn(len(b)+1)]
		}
		_, want := readCue(b)
		cues.reads(t, want, b)
		told[want]++
	}
	for _, e := range []api.Errno{api.OK, api.ErrEnd, api.ErrForm, api.ErrRange, api.ErrNone, api.ErrMany} {
		if told[e] < 300 {
			t.Error(told)
		}
	}
}

func TestWritesAnyCues(t *testing.T) {
	rng := rand.New(rand.NewSource(7))
	told := map[api.Errno]int{}
	for range 40000 {
		c := randomCue(rng)
		for range rng.Intn(3) {
			k := rng.Intn(len(c.L))
			switch rng.Intn(9) {
			case 0:
				c.Lead = some(rng, -1, 0, math.MinInt, math.MaxInt)
			case 1:
				c.L[k].Offset = some(rng, -1, 0, math.MaxInt)
			case 2:
				c.L[k].Number = some(rng, -1, 0, 1, 2, 255, 256)
			case 3:
				c.L[k].Code = some(rng, "", "0", "ABCDE123456", "ABCDE12345678", "ABCDE1234567", "aBCDE1234567")
			case 4:
				c.L[k].L = make([]tags.Index, some(rng, 0, 1, 100, 101))
			case 5:
				c.L[k].L = append(slices.Clone(c.L[k].L), tags.Index{Offset: some(rng, -1, 0), Number: some(rng, -1, 0, 255, 256)})
			case 6:
				c.Catalog += some(rng, "\x00", "\x1f", "\x7f", "é", " ", "~", zeros(3)+"1")
			case 7:
				if rng.Intn(3) == 0 {
					c.L = nil
				}
			case 8:
				c.L[k].Number = c.L[0].Number
			}
			if c.L == nil {
				break
			}
		}
		_, want := writtenCue(c)
		cues.writes(t, want, c)
		told[want]++
	}
	for _, e := range []api.Errno{api.OK, api.ErrForm, api.ErrRange, api.ErrNone, api.ErrMany} {
		if told[e] < 300 {
			t.Error(told)
		}
	}
}

func TestReadCuesAreTheCallers(t *testing.T) {
	b := cues.both(t, sheet())
	c, _ := tags.ReadCue(b)
	clear(b)
	if !sameCue(c, sheet()) {
		t.Error(c)
	}
	// What is written over one list, or behind it, is in no other.
	for n := range c.L {
		for k := range c.L[n].L {
			c.L[n].L[k] = tags.Index{}
		}
		_ = append(c.L[n].L, make([]tags.Index, 20)...)
		c.L[n].L = nil
	}
	want := sheet()
	for n := range want.L {
		want.L[n].L = nil
	}
	if !sameCue(c, want) {
		t.Error(c)
	}
}

// randomCue is one that may be.
func randomCue(rng *rand.Rand) (c tags.Cue) {
	offset := func() int { return some(rng, 0, 1, rng.Intn(1<<30), rng.Int(), math.MaxInt) }
	is := func() bool { return rng.Intn(2) == 0 }
	c.Catalog = randomText(rng, some(rng, 0, 1, 13, 127, 128, rng.Intn(129)), "0123456789 ~aZ")
	c.Lead = offset()
	c.Disc = is()
	numbers := rng.Perm(255)
	for n := range 1 + rng.Intn(5) {
		k := tags.Track{Offset: offset(), Number: 1 + numbers[n], Data: is(), Pre: is()}
		if is() {
			k.Code = randomText(rng, 12, "09AZM5")
		}
		for range some(rng, 1, 2, 1+rng.Intn(9)) {
			k.L = append(k.L, tags.Index{Offset: offset(), Number: rng.Intn(256)})
		}
		c.L = append(c.L, k)
	}
	c.L[len(c.L)-1].L = nil
	return c
}
