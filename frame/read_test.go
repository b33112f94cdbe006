package frame_test

import (
	"bytes"
	"math/rand"
	"slices"
	"strings"
	"testing"

	"jetsam/api"
	"jetsam/frame"
	"jetsam/header"
	"jetsam/predict"
	"jetsam/rice"
	"jetsam/subframe"
	"jetsam/sums"
)

// P10.1, Read.

// example is the chapter's frame.
const example = "\xff\xf8\x69\x02\x00\x03\x93\x00\x03\x08\xf8"

func TestReadsTheExample(t *testing.T) {
	h := header.Header{BlockCode: 6, RateCode: 9, DepthCode: 1, Block: 4, Rate: 44100, Depth: 8}
	want := got{frame.Frame{Header: h, Plans: []subframe.Plan{{}}, Samples: [][]int{{3, 3, 3, 3}}}, 11, api.OK}
	for _, p := range []api.Params{{}, {Rate: 44100}, {Channels: 1}, {Depth: 8}, {Rate: 44100, Channels: 1, Depth: 8}} {
		for _, behind := range []string{"", "\x00", "\xff", example} {
			reads(t, []byte(example+behind), p, want)
		}
	}
}

func TestReadsByHand(t *testing.T) {
	// Of each channel a byte that tells Verbatim, and its sample; the side has a bit more, and seven noughts behind all.
	const v = "00000010 "
	for _, c := range []struct {
		head, text string
		p          api.Params
		mode       int
		channels   [][]int
	}{
		{"\xff\xf8\x69\x02\x00\x00", v + "10000000", api.Params{}, 0, [][]int{{-128}}},
		{"\xff\xf8\x69\x12\x00\x00", v + "00000101" + v + "00000010", api.Params{}, 1, [][]int{{5}, {2}}},
		{"\xff\xf8\x69\x22\x00\x00", v + "00000101" + v + "00000010" + v + "11111111", api.Params{}, 2, [][]int{{5}, {2}, {-1}}},
		{"\xff\xf8\x69\x72\x00\x00", v + "00000000" + v + "00000001" + v + "00000010" + v + "00000011" + v + "00000100" + v + "00000101" + v + "00000110" + v + "00000111", api.Params{}, 7, [][]int{{0}, {1}, {2}, {3}, {4}, {5}, {6}, {7}}},
		// Left 5, right 2, and the other way round; and what is rounded down.
		{"\xff\xf8\x69\x82\x00\x00", v + "00000101" + v + "000000011" + "0000000", api.Params{}, 8, [][]int{{5}, {2}}},
		{"\xff\xf8\x69\x92\x00\x00", v + "000000011" + v + "00000010" + "0000000", api.Params{}, 9, [][]int{{5}, {2}}},
		{"\xff\xf8\x69\xa2\x00\x00", v + "00000011" + v + "000000011" + "0000000", api.Params{}, 10, [][]int{{5}, {2}}},
		{"\xff\xf8\x69\x82\x00\x00", v + "00000010" + v + "111111101" + "0000000", api.Params{}, 8, [][]int{{2}, {5}}},
		{"\xff\xf8\x69\x92\x00\x00", v + "111111101" + v + "00000101" + "0000000", api.Params{}, 9, [][]int{{2}, {5}}},
		{"\xff\xf8\x69\xa2\x00\x00", v + "00000011" + v + "111111101" + "0000000", api.Params{}, 10, [][]int{{2}, {5}}},
		{"\xff\xf8\x69\xa2\x00\x00", v + "11111110" + v + "111111001" + "0000000", api.Params{}, 10, [][]int{{-5}, {2}}},
		// The greatest sides.
		{"\xff\xf8\x69\x82\x00\x00", v + "01111111" + v + "011111111" + "0000000", api.Params{}, 8, [][]int{{127}, {-128}}},
		{"\xff\xf8\x69\x92\x00\x00", v + "100000001" + v + "01111111" + "0000000", api.Params{}, 9, [][]int{{-128}, {127}}},
		{"\xff\xf8\x69\xa2\x00\x00", v + "11111111" + v + "011111111" + "0000000", api.Params{}, 10, [][]int{{127}, {-128}}},
		// Depths that parameters tell: 4 bits, of which the side has 5, and 32, of which it has 33.
		{"\xff\xf8\x69\x00\x00\x00", v + "1000" + "0000", api.Params{Depth: 4}, 0, [][]int{{-8}}},
		{"\xff\xf8\x69\x80\x00\x00", v + "0111" + v + "01111" + "0000000", api.Params{Depth: 4}, 8, [][]int{{7}, {-8}}},
		{"\xff\xf8\x69\x80\x00\x00", v + "10000000000000000000000000000000" + v + "100000000000000000000000000000001" + "0000000", api.Params{Depth: 32}, 8, [][]int{{-1 << 31}, {1<<31 - 1}}},
		{"\xff\xf8\x69\xae\x00\x00", v + "11111111111111111111111111111111" + v + "011111111111111111111111111111111" + "0000000", api.Params{}, 10, [][]int{{1<<31 - 1}, {-1 << 31}}},
	} {
		h, size, e := header.Read(append([]byte(c.head), byte(sums.Sum8([]byte(c.head)))))
		if e != api.OK || h.Mode != c.mode {
			t.Fatal(c.head, int(e))
		}
		b := headed(c.head, c.text)
		want := got{frame.Frame{Header: h, Plans: verbatim(len(c.channels)), Samples: c.channels}, len(b), api.OK}
		if len(b) != size+(len(strings.ReplaceAll(c.text, " ", "")))/8+2 {
			t.Fatal(c.text)
		}
		reads(t, b, c.p, want)
		reads(t, append(b, 0xff, 0x00), c.p, want)
	}
}

func TestReadsEveryModeAndDepth(t *testing.T) {
	rng := rand.New(rand.NewSource(2))
	for mode := range 11 {
		for depth := 4; depth <= 32; depth++ {
			// All that is at the bounds, and some between; and a block of one sample.
			for _, block := range []int{1, 5, 64} {
				f := frame.Frame{Header: headerOf(mode, block), Plans: verbatim(channelsOf(mode))}
				for range channelsOf(mode) {
					f.Samples = append(f.Samples, randomSamples(rng, block, depth))
				}
				for i, l := range f.Samples {
					l[0] = []int{least(depth), most(depth)}[(i+block)%2]
				}
				silent := writtenOf(t, f, depth)
				reads(t, silent, api.Params{Depth: depth}, got{f, len(silent), api.OK})
				readsError(t, silent, api.Params{}, api.ErrParam)
				if depths[depth] == 0 {
					continue
				}
				f.Header = withDepth(f.Header, depth)
				b := writtenOf(t, f, depth)
				reads(t, b, api.Params{Depth: depth}, got{f, len(b), api.OK})
				reads(t, b, api.Params{}, got{f, len(b), api.OK})
			}
		}
	}
}

func TestReadsAnyFrame(t *testing.T) {
	rng := rand.New(rand.NewSource(3))
	kinds, modes, variable := map[int]int{}, map[int]int{}, 0
	for range 5000 {
		s := randomSound(rng)
		b := writtenOf(t, s.f, s.depth)
		want := got{s.f, len(b), api.OK}
		reads(t, b, s.p, want)
		reads(t, append(b, 0xff, 0xf8, 0x00), s.p, want)
		modes[s.f.Mode]++
		for _, p := range s.f.Plans {
			kinds[p.Kind]++
		}
		if s.f.Variable {
			variable++
		}
	}
	for kind := range 4 {
		if kinds[kind] < 1000 {
			t.Error("too few plans of the Kind", kind, kinds[kind])
		}
	}
	if len(modes) != 11 || variable < 2000 || variable > 3000 {
		t.Error(modes, variable)
	}
}

func TestBytesRunOutAtEveryPlace(t *testing.T) {
	rng := rand.New(rand.NewSource(4))
	for range 150 {
		s := randomSound(rng)
		b := writtenOf(t, s.f, s.depth)
		// A Depth that does not fit comes as soon as the header is whole.
		head, _ := header.Write(s.f.Header)
		wrong := s.p
		wrong.Depth = 33
		for n := range b {
			readsError(t, b[:n], s.p, api.ErrEnd)
			want := api.ErrParam
			if n < len(head) {
				want = api.ErrEnd
			}
			readsError(t, b[:n], wrong, want)
		}
	}
	readsError(t, nil, api.Params{}, api.ErrEnd)
	readsError(t, nil, api.Params{Depth: 33}, api.ErrEnd)
}

func TestAHeaderThatIsNoneComesFirst(t *testing.T) {
	b := []byte(example)
	for _, c := range []struct {
		at int
		v  byte
		e  api.Errno
	}{
		{0, 0xfe, api.ErrSync},
		{1, 0xfa, api.ErrSync},
		{2, 0x09, api.ErrCode},
		{3, 0xb2, api.ErrCode},
		{3, 0x06, api.ErrCode},
		{3, 0x03, api.ErrForm},
		{4, 0x80, api.ErrForm},
		{6, 0x92, api.ErrSum8},
	} {
		d := slices.Clone(b)
		d[c.at] = c.v
		readsError(t, d, api.Params{}, c.e)
		// Ahead of parameters, of a channel, and of a sum.
		d[7], d[8], d[10] = 0xff, 0xff, 0
		readsError(t, d, api.Params{Rate: 8000, Channels: 7, Depth: 99}, c.e)
	}
	// A number that its kind has not, and a block of 65536.
	readsError(t, headed("\xff\xf8\x69\x02\xfe\x82\x80\x80\x80\x80\x80\x03", "0000000000000011"), api.Params{}, api.ErrRange)
	readsError(t, headed("\xff\xf8\x79\x02\x00\xff\xff", "0000000000000011"), api.Params{}, api.ErrCode)
}

func TestParametersComeAheadOfChannels(t *testing.T) {
	right := []byte(example)
	wrong := slices.Clone(right)
	wrong[7] = 0xff
	readsError(t, wrong, api.Params{}, api.ErrForm)
	for _, p := range []api.Params{{Rate: 44101}, {Rate: -1}, {Channels: 2}, {Channels: -1}, {Depth: 9}, {Depth: 16}, {Depth: -8}, {Depth: 40}, {Rate: 44100, Channels: 1, Depth: 7}, {Rate: 44100, Channels: 8, Depth: 8}, {Rate: 1, Channels: 1, Depth: 8}} {
		for _, b := range [][]byte{right, wrong, right[:7]} {
			readsError(t, b, p, api.ErrParam)
		}
	}
	// A header that tells no depth.
	silent := headed("\xff\xf8\x69\x00\x00\x03", "0000000000000011")
	for _, depth := range append([]int{0, 1, 2, 3, 33, 34}, farNumbers...) {
		readsError(t, silent, api.Params{Depth: depth}, api.ErrParam)
		readsError(t, silent[:7], api.Params{Depth: depth}, api.ErrParam)
	}
	reads(t, silent, api.Params{Depth: 8}, readOf(silent, api.Params{Depth: 8}))
}

// wrongChannels are texts that are no channel of a depth, of 8 samples, and what is wrong with them.
func wrongChannels(depth int) map[string]api.Errno {
	return map[string]api.Errno{
		"1" + "000000" + "0" + digits(depth, 3):                                                       api.ErrForm,
		"0" + "000010" + "0" + digits(depth, 3):                                                       api.ErrCode,
		"0" + "000000" + "1" + strings.Repeat("0", depth-1) + "1":                                     api.ErrRange,
		"0" + "001001" + "0" + digits(depth, most(depth)) + "00" + "0000" + "0000" + "001" + "111111": api.ErrRange,
		"0" + "001000" + "0" + "10":                                                                   api.ErrCode,
		"0" + "001000" + "0" + "00" + "0100":                                                          api.ErrForm,
	}
}

func TestTheFirstChannelThatIsWrongIsTold(t *testing.T) {
	p := api.Params{Depth: 8}
	for mode := range 11 {
		for at := range channelsOf(mode) {
			ahead := ""
			for i := range at {
				ahead += "00000000" + digits(bitsOf(8, mode, i), 3)
			}
			for first, e := range wrongChannels(bitsOf(8, mode, at)) {
				for second := range wrongChannels(bitsOf(8, mode, 1)) {
					text := ahead + first + second
					text += strings.Repeat("1", 64-len(text)%8)
					b := headed("\xff\xf8\x69"+string([]byte{byte(mode << 4)})+"\x00\x07", text)
					readsError(t, b, p, e)
					// Whatever comes behind it.
					b[len(b)-1] ^= 1
					readsError(t, b, p, e)
					readsError(t, b[:len(b)-9], p, e)
				}
			}
		}
	}
}

func TestWhatFollowsTheLastChannelIsNoughts(t *testing.T) {
	for block := 1; block <= 32; block++ {
		for _, depth := range []int{4, 5, 7, 8, 11, 16, 31, 32} {
			f := frame.Frame{Header: headerOf(0, block), Plans: verbatim(1), Samples: [][]int{slices.Repeat([]int{-1}, block)}}
			b := writtenOf(t, f, depth)
			p := api.Params{Depth: depth}
			pad := (8 - (8+block*depth)%8) % 8
			reads(t, b, p, got{f, len(b), api.OK})
			body := b[:len(b)-2]
			for n := 1; n < 1<<pad; n++ {
				d := slices.Clone(body)
				d[len(d)-1] |= byte(n)
				// Ahead of an end behind them, and of a sum that does not fit.
				readsError(t, d, p, api.ErrForm)
				readsError(t, append(d, 0), p, api.ErrForm)
				readsError(t, append(d, b[len(b)-2:]...), p, api.ErrForm)
				readsError(t, summed(d), p, api.ErrForm)
			}
			// Where there are none, or the bit ahead of them is another one, a sample is.
			d := slices.Clone(body)
			d[len(d)-1] &^= 1 << pad
			g := readOf(summed(d), p)
			if g.e != api.OK || g.f.Samples[0][block-1] != -2 {
				t.Fatal(block, depth, g)
			}
			reads(t, summed(d), p, g)
		}
	}
}

func TestASumThatDoesNotFit(t *testing.T) {
	rng := rand.New(rand.NewSource(5))
	for range 20 {
		s := randomSound(rng)
		b := writtenOf(t, s.f, s.depth)
		n := len(b)
		right := int(b[n-2])*256 + int(b[n-1])
		for sum := range 1 << 16 {
			if sum != right && (sum%197 == 0 || sum>>8 == right>>8 || sum&255 == right&255) {
				b[n-2], b[n-1] = byte(sum/256), byte(sum%256)
				readsError(t, b, s.p, api.ErrSum16)
				// What stands behind it does not count, even where it would be the sum.
				readsError(t, append(b, byte(right/256), byte(right%256)), s.p, api.ErrSum16)
			}
		}
	}
}

func TestSamplesThatAreNoneOfTheDepthOnceTheyAreJoined(t *testing.T) {
	for depth := 4; depth <= 32; depth++ {
		low, high := least(depth), most(depth)
		for _, c := range []struct {
			mode, a, b int
			right      bool
		}{
			{8, high, 0, true},
			{8, high, -1, false},
			{8, high, high - low, true},
			{8, high - 1, high - low, false},
			{8, low, 0, true},
			{8, low, 1, false},
			{8, low, low - high, true},
			{8, low, low - high - 1, false},
			{8, 0, -high, true},
			{8, 0, low, false},
			{8, 0, high + 1, true},
			{8, 0, high + 2, false},
			{9, 0, high, true},
			{9, 1, high, false},
			{9, high - low, low, true},
			{9, high - low, low + 1, false},
			{9, 0, low, true},
			{9, -1, low, false},
			{9, low - high, high, true},
			{9, low - high - 1, high, false},
			{9, high, 0, true},
			{9, high + 1, 0, false},
			{9, low, 0, true},
			{9, low - 1, 0, false},
			{10, high, 0, true},
			{10, high, 1, false},
			{10, high, -1, false},
			{10, low, 0, true},
			{10, low, 1, true},
			{10, low, -1, true},
			{10, low, 2, false},
			{10, low, -2, false},
			{10, -1, high - low, true},
			{10, 0, high - low, false},
			{10, -2, high - low, false},
			{10, -1, low - high, true},
			{10, 0, low - high, false},
			{10, -2, low - high, false},
			{10, -1, low - high - 1, false},
			{10, 0, low - high - 1, false},
		} {
			joined := joinedOf(c.mode, [][]int{{c.a}, {c.b}})
			b := stereoFrame(t, depth, c.mode, c.a, c.b)
			want := got{frame.Frame{Header: headerOf(c.mode, 1), Plans: verbatim(2), Samples: joined}, len(b), api.OK}
			if !c.right {
				want = got{e: api.ErrRange}
			}
			p := api.Params{Depth: depth}
			reads(t, b, p, want)
			reads(t, append(b, 7), p, want)
			// A sum that does not fit, and bytes that run out, come first.
			b[len(b)-1] ^= 1
			readsError(t, b, p, api.ErrSum16)
			readsError(t, b[:len(b)-1], p, api.ErrEnd)
		}
	}
}

func TestAllThatIsWrittenOfASampleOfFourBits(t *testing.T) {
	p := api.Params{Depth: 4}
	for mode := 8; mode <= 10; mode++ {
		right := 0
		for a := range 1 << bitsOf(4, mode, 0) {
			for b := range 1 << bitsOf(4, mode, 1) {
				c := stereoFrame(t, 4, mode, a+least(bitsOf(4, mode, 0)), b+least(bitsOf(4, mode, 1)))
				want := readOf(c, p)
				if want.e == api.OK {
					right++
				}
				reads(t, c, p, want)
			}
		}
		// As many as there are two samples of 4 bits.
		if right != 256 {
			t.Error(mode, right)
		}
	}
}

// stereoFrame is a frame of one sample of each of two channels, as they are written, of a depth that is not told.
func stereoFrame(t *testing.T, depth, mode, a, b int) []byte {
	t.Helper()
	head, e := header.Write(headerOf(mode, 1))
	if e != api.OK {
		t.Fatal(int(e))
	}
	text := channelText(t, verbatim(1)[0], bitsOf(depth, mode, 0), []int{a}) + channelText(t, verbatim(1)[0], bitsOf(depth, mode, 1), []int{b})
	for len(text)%8 != 0 {
		text += "0"
	}
	return summed(append(head, bytesOf(text)...))
}

func TestSamplesThatAreNoneOfTheDepthAsTheyAre(t *testing.T) {
	// Of a mode that tells no side a sample beyond the depth is the channel's error, ahead of a sum.
	p := api.Params{Depth: 8}
	for mode := range 8 {
		for at := range mode + 1 {
			for _, x := range []string{"01111111" + "00" + "0000" + "0000" + "001", "10000000" + "00" + "0000" + "0000" + "01"} {
				text := strings.Repeat("00000000"+"00000011", at) + "00010010" + x
				text += strings.Repeat("0", 8-len(text)%8) + strings.Repeat("00000000"+"00000011", mode-at)
				b := headed("\xff\xf8\x69"+string([]byte{byte(mode << 4)})+"\x00\x01", text)
				readsError(t, b, p, api.ErrRange)
				b[len(b)-1] ^= 1
				readsError(t, b, p, api.ErrRange)
				readsError(t, b[:len(b)-2], p, api.ErrRange)
			}
		}
	}
}

func TestReadsAnyBytesAsTheTextsSay(t *testing.T) {
	rng := rand.New(rand.NewSource(6))
	seen := map[api.Errno]int{}
	for range 12000 {
		s := randomSound(rng)
		b := writtenOf(t, s.f, s.depth)
		// Somewhere damaged, cut, or with a sum of what it is now.
		head, _ := header.Write(s.f.Header)
		for range rng.Intn(3) {
			b[rng.Intn(len(b))] ^= 1 << rng.Intn(8)
		}
		if rng.Intn(3) > 0 {
			copy(b, head)
			b = summed(b[:len(b)-2])
		}
		for range rng.Intn(4) {
			b = append(b, byte(rng.Intn(256)))
		}
		if rng.Intn(6) == 0 {
			b = b[:rng.Intn(len(b)+1)]
		}
		switch rng.Intn(20) {
		case 0:
			s.p.Depth = rng.Intn(40)
		case 1:
			s.p.Rate = 1 + rng.Intn(2)*44099
		case 2:
			s.p.Channels = rng.Intn(10)
		}
		want := readOf(b, s.p)
		seen[want.e]++
		reads(t, b, s.p, want)
	}
	for _, e := range []api.Errno{api.OK, api.ErrEnd, api.ErrForm, api.ErrCode, api.ErrSum16, api.ErrRange, api.ErrParam, api.ErrSum8} {
		if seen[e] < 60 {
			t.Error("too few of the error", int(e), seen[e])
		}
	}
}

// greatFrame is a frame of as many bytes, all Verbatim of 8 bits.
func greatFrame(t *testing.T, size int) (frame.Frame, []byte) {
	t.Helper()
	const ahead = 8 + 2
	channels := 1
	if size > 1<<16+3 {
		channels = 2
	}
	f := frame.Frame{Header: withDepth(headerOf(channels-1, (size-ahead)/channels-1), 8), Plans: verbatim(channels)}
	for i := range channels {
		f.Samples = append(f.Samples, make([]int, f.Block))
		for at := range f.Samples[i] {
			f.Samples[i][at] = at*at%251 - 125
		}
	}
	b := writtenOf(t, f, 8)
	if len(b) != size {
		t.Fatal(size, len(b), channels)
	}
	return f, b
}

func TestReadsFramesOfAnyLength(t *testing.T) {
	for power := 5; power <= 17; power++ {
		for size := 1<<power - 3; size <= 1<<power+3; size++ {
			if power == 17 && size%2 != 0 {
				// Of two channels there is none.
				continue
			}
			f, b := greatFrame(t, size)
			want := got{f, size, api.OK}
			reads(t, b, api.Params{}, want)
			reads(t, append(b, 1), api.Params{}, want)
			reads(t, append(b, make([]byte, 100000)...), api.Params{}, want)
			for _, n := range []int{size - 1, size - 2, size - 3, size / 2, size/2 + 1, 9} {
				readsError(t, b[:n], api.Params{}, api.ErrEnd)
			}
			for _, at := range []int{size - 1, size - 2, size - 3, size / 2} {
				d := slices.Clone(b)
				d[at] ^= 4
				readsError(t, d, api.Params{}, api.ErrSum16)
				readsError(t, append(d, make([]byte, 100000)...), api.Params{}, api.ErrSum16)
			}
		}
	}
}

func TestReadsTheGreatestFrame(t *testing.T) {
	f := frame.Frame{Header: headerOf(7, 65535), Plans: verbatim(8)}
	rng := rand.New(rand.NewSource(7))
	for range 8 {
		f.Samples = append(f.Samples, randomSamples(rng, 65535, 31))
	}
	b, e := frame.Write(f, api.Params{Depth: 31})
	if e != api.OK || len(b) != 8+8*(8+65535*31)/8+2 {
		t.Fatal(len(b), int(e))
	}
	k, n, e := frame.Read(append(b, 1), api.Params{Depth: 31})
	if n != len(b) || e != api.OK || k.Header != f.Header || len(k.Plans) != 8 || !slices.EqualFunc(k.Samples, f.Samples, slices.Equal[[]int]) {
		t.Fatal(n, int(e), k.Header)
	}
	for _, cut := range []int{1, 2, 3, 100000} {
		readsError(t, b[:len(b)-cut], api.Params{Depth: 31}, api.ErrEnd)
	}
	b[len(b)-3] ^= 1
	readsError(t, b, api.Params{Depth: 31}, api.ErrSum16)
}

// noughtsFrame is what stands ahead of a residual of parameter 0, that begins with so many noughts, and that; of a depth
// that is not told, and without a sum.
func noughtsFrame(noughts int, behind string) []byte {
	b := headed("\xff\xf8\x69\x00\x00\x00", "")
	text := "0" + "001000" + "0" + "00" + "0000" + "0000" + strings.Repeat("0", noughts) + behind
	return append(b[:len(b)-2], bytesOf(text+strings.Repeat("0", (8-len(text)%8)%8))...)
}

func TestReadsResidualsOfManyNoughts(t *testing.T) {
	p := api.Params{Depth: 32}
	for _, noughts := range []int{0, 1, 65535, 65536, 65537, 131072, 200000, 1 << 20} {
		b := summed(noughtsFrame(noughts, "1"))
		want := readOf(b, p)
		if (want.e == api.OK) != (noughts <= 65536) || want.e != api.OK && want.e != api.ErrRange {
			t.Fatal(noughts, int(want.e))
		}
		reads(t, b, p, want)
		reads(t, append(b, make([]byte, 70000)...), p, want)
		// Noughts up to the end, and no one behind them.
		readsError(t, noughtsFrame(noughts, ""), p, api.ErrEnd)
	}
}

func TestReadsAtEachPlaceOfLongBytes(t *testing.T) {
	b := bytes.Repeat([]byte(example), 100000)
	found := 0
	for at := range b {
		if f, n, e := frame.Read(b[at:], api.Params{}); e == api.OK && n == len(example) && f.Samples[0][3] == 3 {
			found++
		}
	}
	if found != 100000 {
		t.Error(found)
	}
}

func TestReadsPlansThatAreNotTheBest(t *testing.T) {
	// Constant samples told by a prediction, with codes that are not the shortest.
	h := header.Header{Variable: true, BlockCode: 7, RateCode: 13, Mode: 10, DepthCode: 4, Number: 70000, Block: 192, Rate: 44100, Depth: 16}
	told := predict.Linear{Precision: 15, Shift: 15, Coefs: []int{0, 0, 0}}
	f := frame.Frame{Header: h, Plans: []subframe.Plan{
		{Kind: subframe.Linear, Order: 3, Linear: told, Rice: rice.Plan{Method: 1, Order: 1, Params: []int{30, rice.Raw}, Bits: []int{0, 31}}},
		{Kind: subframe.Fixed, Order: 4, Wasted: 2, Rice: rice.Plan{Params: []int{14}, Bits: []int{0}}},
	}}
	f.Samples = [][]int{slices.Repeat([]int{12}, 192), slices.Repeat([]int{4}, 192)}
	b := writtenOf(t, f, 16)
	reads(t, b, api.Params{}, got{f, len(b), api.OK})
	writes(t, f, api.Params{}, b)
}

func TestReadDoesNotWriteAndAnswersItsOwn(t *testing.T) {
	rng := rand.New(rand.NewSource(8))
	for range 2000 {
		s := randomSound(rng)
		all := writtenOf(t, s.f, s.depth)
		n := len(all)
		for range 20 {
			all = append(all, byte(rng.Intn(256)))
		}
		before := slices.Clone(all)
		want := got{s.f, n, api.OK}
		f, _, _ := frame.Read(all[:n], s.p)
		overwrite(f)
		reads(t, all[:n], s.p, want)
		f, _, _ = frame.Read(all, s.p)
		for i := range all {
			all[i] ^= 0xff
		}
		if !same(f, s.f) {
			t.Fatal(short(f), short(s.f))
		}
		for i := range all {
			all[i] ^= 0xff
		}
		if !bytes.Equal(all, before) {
			t.Fatalf("%x, not %x", all, before)
		}
		// No two of its lists are one.
		for i, l := range f.Samples {
			overwrite(frame.Frame{Samples: [][]int{l}})
			if i+1 < len(f.Samples) && !slices.Equal(f.Samples[i+1], s.f.Samples[i+1]) {
				t.Fatal(i, short(f))
			}
		}
	}
}
