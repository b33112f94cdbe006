package stream_test

import (
	"bytes"
	"reflect"
	"slices"
	"strings"
	"testing"

	"jetsam/api"
	"jetsam/blocks"
	"jetsam/frame"
	"jetsam/header"
	"jetsam/info"
	"jetsam/stream"
	"jetsam/tags"
)

// P14.1.

func TestMarker(t *testing.T) {
	if stream.Marker != "fLaC" {
		t.Error(stream.Marker)
	}
	b := string(sheetOf(t, plain, fixed(20)...).bytesOf(t))
	for _, s := range []string{"", "f", "fL", "fLa", "FLaC", "fLAC", "flaC", "fLac", "fLaX", "xfLaC", "\x00\x00\x00\x00", b[1:], "\x00" + b, " " + b, strings.ToLower(b[:4]) + b[4:], "ID3" + b, b[4:]} {
		reads(t, api.ErrSync, []byte(s))
	}
	if _, e := stream.Read(nil); e != api.ErrSync {
		t.Error(int(e))
	}
	reads(t, api.OK, []byte(b))
}

func TestReadsByHand(t *testing.T) {
	// One channel of 8 bits, 8000 samples a second, all 0: 16, and 4.
	ahead := "fLaC" + "\x80\x00\x00\x22" + "\x00\x10\x00\x10" + "\x00\x00\x00\x00\x00\x00" + "\x01\xf4\x00\x70\x00\x00\x00\x14" + zeros(16)
	p := api.Params{Rate: 8000, Channels: 1, Depth: 8}
	first, second := rawOf(t, p, false, 0, make([]int, 16)), rawOf(t, p, false, 1, make([]int, 4))
	if string(first[:6]) != "\xff\xf8\x64\x02\x00\x0f" || string(second[:6]) != "\xff\xf8\x64\x02\x01\x03" {
		t.Fatalf("%x, %x", first, second)
	}
	s := reads(t, api.OK, []byte(ahead+string(first)+string(second)))
	if s.Params != p || s.MinBlock != 16 || s.MaxBlock != 16 || s.MinFrame != 0 || s.MaxFrame != 0 || s.Total != 20 || s.Known() {
		t.Errorf("%+v", s.Info)
	}
	if len(s.Blocks) != 1 || s.Blocks[0].Type != blocks.Info || string(s.Blocks[0].Data) != ahead[8:] {
		t.Errorf("%+v", s.Blocks)
	}
	if len(s.Frames) != 2 || s.Frames[0].Block != 16 || s.Frames[1].Block != 4 || s.Frames[1].Number != 1 || !slices.Equal(s.Frames[1].Samples[0], make([]int, 4)) {
		t.Errorf("%+v", s.Frames)
	}
	if len(s.Raw) != 2 || !bytes.Equal(s.Raw[0], first) || !bytes.Equal(s.Raw[1], second) {
		t.Errorf("%x", s.Raw)
	}
}

func TestReadsAnyStream(t *testing.T) {
	for _, l := range [][]part{
		fixed(1), fixed(15), fixed(16), fixed(17), fixed(65535), fixed(16, 1), fixed(16, 16), fixed(16, 16, 16, 15), fixed(192, 192, 191), fixed(4096, 1),
		variable(1), variable(15), variable(65535), variable(16, 1), variable(16, 65535), variable(20, 30, 16, 4), variable(30, 20, 40, 50), variable(16, 16, 16), variable(16, 16, 15),
	} {
		for _, p := range []api.Params{plain, {Rate: 1, Channels: 1, Depth: 4}, {Rate: 1048575, Channels: 8, Depth: 32}, {Rate: 48000, Channels: 6, Depth: 24}} {
			s := sheetOf(t, p, l...)
			k := s.reads(t, api.OK)
			if len(k.Frames) != len(l) || k.Frames[0].Variable != l[0].isVariable {
				t.Error(l, len(k.Frames))
			}
			if !slices.EqualFunc(k.Samples(), waves(p, totalOf(l)), slices.Equal[[]int]) {
				t.Error(l, "other samples")
			}
		}
	}
}

// totalOf is how many samples parts have.
func totalOf(l []part) (n int) {
	for _, k := range l {
		n += k.size
	}
	return n
}

func TestManyFrames(t *testing.T) {
	// Numbers of one byte, and of two, and of three.
	p := api.Params{Rate: 8000, Channels: 1, Depth: 8}
	sizes := append(slices.Repeat([]int{16}, 2100), 7)
	for _, l := range [][]part{fixed(sizes...), variable(sizes...)} {
		s := sheetOf(t, p, l...)
		s.reads(t, api.OK)
		l[2050].number++
		sheetOf(t, p, l...).reads(t, api.ErrOrder)
	}
}

func TestBlocksErrors(t *testing.T) {
	s := sheetOf(t, plain, fixed(16, 4)...)
	l := s.blocksOf(t)
	i := l[0]
	reads(t, api.ErrEnd, []byte("fLaC"))
	reads(t, api.ErrEnd, []byte("fLaC\x80"))
	reads(t, api.ErrEnd, []byte("fLaC\x80\x00\x00\x22"))
	reads(t, api.ErrEnd, []byte("fLaC\x80\x00\x00\x22"+zeros(33)))
	reads(t, api.ErrCode, []byte("fLaC\xff\x00\x00\x00"))
	reads(t, api.ErrCode, []byte("fLaC\x00\x00\x00\x22"+string(i.Data)+"\x7f\x00\x00\x00"))
	// One that is not told to be the last one: frames are taken for blocks, which end too late.
	b := s.bytesOf(t)
	b[4] &= 127
	reads(t, api.ErrEnd, b)
	for _, c := range []struct {
		e api.Errno
		l []blocks.Block
	}{
		{api.ErrNone, []blocks.Block{block(1, "")}},
		{api.ErrNone, []blocks.Block{block(1, ""), i}},
		{api.ErrNone, []blocks.Block{block(4, zeros(8)), i}},
		{api.ErrMany, []blocks.Block{i, i}},
		{api.ErrMany, []blocks.Block{i, block(3, ""), block(1, ""), block(3, "")}},
		{api.ErrMany, []blocks.Block{i, block(4, zeros(8)), block(4, zeros(8))}},
		{api.ErrRange, []blocks.Block{block(0, "")}},
		{api.ErrRange, []blocks.Block{block(0, string(i.Data[:33]))}},
		{api.ErrRange, []blocks.Block{block(0, string(i.Data)+"\x00")}},
		{api.ErrForm, []blocks.Block{i, block(1, "\x00\x01")}},
		{api.ErrForm, []blocks.Block{i, block(2, "abc")}},
		{api.ErrForm, []blocks.Block{i, block(3, zeros(17))}},
		// Blocks in a wrong order are named ahead of the info, and of other blocks.
		{api.ErrForm, []blocks.Block{block(0, zeros(34)), block(4, ""), block(1, "\x01")}},
		{api.ErrRange, []blocks.Block{block(0, zeros(34)), block(4, "")}},
	} {
		reads(t, c.e, marked(t, c.l, s.raw...))
		reads(t, c.e, marked(t, c.l))
	}
}

func TestInfoErrors(t *testing.T) {
	s := sheetOf(t, plain, fixed(16, 4)...)
	for _, c := range []struct {
		at   int
		data string
	}{
		{0, "\x00\x0f"},                 // MinBlock
		{2, "\x00\x0f"},                 // MaxBlock
		{4, "\x00\x00\x09\x00\x00\x08"}, // frame sizes
		{10, "\x00\x00\x02\xf0"},        // Rate
		{12, "\x42\x20"},                // Depth
	} {
		l := s.blocksOf(t)
		copy(l[0].Data[c.at:], c.data)
		reads(t, api.ErrRange, marked(t, l, s.raw...))
		// It is named ahead of the frames, and of blocks behind it.
		reads(t, api.ErrRange, marked(t, l))
		reads(t, api.ErrRange, marked(t, l, []byte("TAG")))
		reads(t, api.ErrRange, marked(t, append(l, block(4, "")), s.raw...))
	}
}

// comments, picture and cue are such blocks that may be.
func comments(t *testing.T, l ...string) blocks.Block {
	t.Helper()
	return written(t, blocks.Comment, tags.Comments{Vendor: "x", L: l}.Write)
}

func picture(t *testing.T) blocks.Block {
	t.Helper()
	return written(t, blocks.Picture, tags.Picture{Kind: 3, Mime: "image/png", Data: []byte{1, 2, 3}}.Write)
}

func cue(t *testing.T) blocks.Block {
	t.Helper()
	return written(t, blocks.Cue, tags.Cue{L: []tags.Track{{Number: 170}}}.Write)
}

// written is a block of what is written.
func written(t *testing.T, kind int, write func() ([]byte, api.Errno)) blocks.Block {
	t.Helper()
	b, e := write()
	if e != api.OK {
		t.Fatal(kind, int(e))
	}
	return blocks.Block{Type: kind, Data: b}
}

func TestEachBlockIsRight(t *testing.T) {
	s := sheetOf(t, plain, fixed(16, 4)...)
	for _, k := range []blocks.Block{
		comments(t), comments(t, "A=b", "c=D"), picture(t), cue(t), block(1, ""), block(1, zeros(300)), block(2, "abcd"), block(2, "abcdefg"), block(3, ""), pointsBlock(t, kept(), kept()), block(7, "any"), block(126, "\xff"),
	} {
		k := s.with(k, k)
		if k.behind[0].Type == blocks.Comment || k.behind[0].Type == blocks.Seek {
			k.behind = k.behind[1:]
		}
		if a := k.reads(t, api.OK); len(a.Blocks) != 1+len(k.behind) {
			t.Error(len(a.Blocks))
		}
	}
	s.with(picture(t), block(1, "\x00"), comments(t, "A=b"), cue(t), block(99, "x"), pointsBlock(t, kept()), picture(t), cue(t)).reads(t, api.OK)
}

func TestErrorsOfBlocks(t *testing.T) {
	s := sheetOf(t, plain, fixed(16, 4)...)
	changed := func(k blocks.Block, n int, x byte) blocks.Block {
		k.Data = bytes.Clone(k.Data)
		k.Data[n] = x
		return k
	}
	longer := func(k blocks.Block) blocks.Block {
		k.Data = append(bytes.Clone(k.Data), 0)
		return k
	}
	for n, c := range []struct {
		e api.Errno
		k blocks.Block
	}{
		{api.ErrEnd, block(4, "")},
		{api.ErrEnd, block(4, zeros(7))},
		{api.ErrForm, longer(comments(t))},
		{api.ErrForm, changed(comments(t, "A=b"), 13, '=')},
		{api.ErrForm, changed(comments(t), 4, 0xff)},
		{api.ErrEnd, block(6, "")},
		{api.ErrRange, changed(picture(t), 3, 21)},
		{api.ErrForm, changed(picture(t), 8, 10)},
		{api.ErrForm, longer(picture(t))},
		{api.ErrEnd, block(5, "")},
		{api.ErrNone, block(5, zeros(396))},
		{api.ErrForm, longer(cue(t))},
		{api.ErrRange, changed(cue(t), 128, 255)},
		{api.ErrForm, changed(cue(t), 136, 1)},
		{api.ErrRange, block(3, "\x80"+zeros(17))},
		{api.ErrRange, block(3, zeros(8)+"\x80"+zeros(9))},
		{api.ErrOrder, block(3, zeros(36))},
		{api.ErrOrder, block(3, strings.Repeat("\xff", 8)+zeros(28))},
	} {
		s.with(c.k).reads(t, c.e)
		s.with(block(1, "\x00"), picture(t), c.k, picture(t)).reads(t, c.e)
		// It is named ahead of all frames, whatever is wrong with them.
		k := s.with(c.k)
		k.raw = nil
		k.reads(t, c.e)
		k.raw = [][]byte{{1, 2, 3}}
		k.reads(t, c.e)
		// Of two the first one is named, whatever kinds they are.
		other := block(5, "")
		if c.e == api.ErrEnd {
			other = block(5, zeros(396))
		}
		s.with(c.k, other).reads(t, c.e)
		e := blockError(other)
		s.with(other, c.k).reads(t, e)
		if e == c.e {
			t.Error(n)
		}
	}
}

// spoilt is a sheet whose frame n is other bytes.
func (s sheet) spoilt(n int, raw []byte) sheet {
	s.raw = slices.Clone(s.raw)
	s.raw[n] = raw
	return s
}

// changed is bytes, one of which is another.
func changed(b []byte, n int, x byte) []byte {
	b = bytes.Clone(b)
	b[n] ^= x
	return b
}

// toldRaw is a frame's bytes whose header tells what other parameters do; it has samples of plain.
func toldRaw(t *testing.T, number int, p api.Params, l ...[]int) []byte {
	t.Helper()
	f, e := frame.Make(false, number, plain, l...)
	if e != api.OK {
		t.Fatal(int(e))
	}
	h, e := header.Make(false, number, f.Block, f.Mode, p)
	if e != api.OK {
		t.Fatal(int(e))
	}
	f.Header = h
	if p.Depth != plain.Depth {
		h.Depth, h.DepthCode, f.Header = 0, 0, h
	}
	b, e := frame.Write(f, api.Params{Depth: plain.Depth})
	if e != api.OK {
		t.Fatal(int(e))
	}
	return b
}

func TestErrorsOfFrames(t *testing.T) {
	s := sheetOf(t, plain, fixed(16, 16, 16)...)
	for n, b := range s.raw {
		s.spoilt(n, changed(b, 0, 1)).reads(t, api.ErrSync)
		s.spoilt(n, changed(b, 1, 2)).reads(t, api.ErrSync)
		s.spoilt(n, changed(b, 2, 0x60)).reads(t, api.ErrCode)
		s.spoilt(n, changed(b, 3, 1)).reads(t, api.ErrForm)
		s.spoilt(n, changed(b, 5, 1)).reads(t, api.ErrSum8)
		s.spoilt(n, changed(b, len(b)-1, 1)).reads(t, api.ErrSum16)
		s.spoilt(n, changed(b, len(b)-2, 128)).reads(t, api.ErrSum16)
		for _, k := range []int{len(b) - 1, len(b) - 2, 6, 1} {
			c := s.spoilt(n, b[:k])
			_, e := readOf(c.bytesOf(t))
			c.reads(t, e)
			c.raw = c.raw[:n+1]
			c.reads(t, api.ErrEnd)
		}
		// Other bytes ahead of a frame, or behind it.
		s.spoilt(n, append([]byte{0}, b...)).reads(t, api.ErrSync)
		s.spoilt(n, append(slices.Clone(b), 0)).reads(t, api.ErrSync)
	}
	s.raw = append(s.raw, []byte{0xff})
	s.reads(t, api.ErrEnd)
	s.raw[3] = []byte("TAG")
	s.reads(t, api.ErrSync)
	s.raw = [][]byte{{0}}
	s.reads(t, api.ErrSync)
}

func TestParametersThatDoNotFit(t *testing.T) {
	s := sheetOf(t, plain, fixed(16, 16, 16)...)
	l := waves(plain, 48)
	for n := range s.raw {
		sound := cut(l, 16*n, 16*n+16)
		// What is not told fits.
		s.spoilt(n, toldRaw(t, n, api.Params{Channels: 2, Depth: 5}, sound...)).reads(t, api.OK)
		s.spoilt(n, toldRaw(t, n, api.Params{Rate: 44100, Channels: 2, Depth: 5}, sound...)).reads(t, api.OK)
		s.spoilt(n, toldRaw(t, n, api.Params{Rate: 0, Channels: 2, Depth: 16}, sound...)).reads(t, api.OK)
		for _, rate := range []int{1, 44101, 48000, 96000} {
			s.spoilt(n, toldRaw(t, n, api.Params{Rate: rate, Channels: 2, Depth: 16}, sound...)).reads(t, api.ErrParam)
		}
		for _, p := range []api.Params{
			{Rate: 44100, Channels: 2, Depth: 24}, {Rate: 44100, Channels: 2, Depth: 20}, {Rate: 44100, Channels: 1, Depth: 16}, {Rate: 44100, Channels: 3, Depth: 16}, {Rate: 44100, Channels: 8, Depth: 16},
		} {
			raw := rawOf(t, p, false, n, waves(p, 16)...)
			s.spoilt(n, raw).reads(t, api.ErrParam)
			// It is named ahead of a sum that is wrong, as frame.Read names it, and of the Number.
			s.spoilt(n, changed(raw, len(raw)-1, 1)).reads(t, api.ErrParam)
			s.spoilt(n, rawOf(t, p, false, 7, waves(p, 16)...)).reads(t, api.ErrParam)
		}
	}
}

func TestAllFramesAreVariableOrNone(t *testing.T) {
	for _, c := range []struct {
		e api.Errno
		l []part
	}{
		{api.OK, []part{{false, 0, 16}, {false, 1, 16}, {false, 2, 16}}},
		{api.OK, []part{{true, 0, 16}, {true, 16, 16}, {true, 32, 16}}},
		{api.ErrParam, []part{{false, 0, 16}, {true, 16, 16}, {true, 32, 16}}},
		{api.ErrParam, []part{{true, 0, 16}, {false, 1, 16}, {false, 2, 16}}},
		{api.ErrParam, []part{{false, 0, 16}, {false, 1, 16}, {true, 32, 16}}},
		{api.ErrParam, []part{{true, 0, 16}, {true, 16, 16}, {false, 2, 16}}},
		// It is named ahead of the Number, but that of a frame ahead of it first.
		{api.ErrParam, []part{{false, 0, 16}, {true, 1, 16}}},
		{api.ErrParam, []part{{true, 0, 16}, {false, 16, 16}}},
		{api.ErrOrder, []part{{false, 1, 16}, {true, 16, 16}}},
		{api.ErrOrder, []part{{true, 1, 16}, {false, 1, 16}}},
		{api.ErrOrder, []part{{false, 0, 16}, {false, 16, 16}, {true, 32, 16}}},
	} {
		sheetOf(t, plain, c.l...).reads(t, c.e)
	}
}

func TestNumbers(t *testing.T) {
	for _, l := range [][]part{fixed(16), fixed(16, 16), fixed(16, 16, 16, 4), variable(16), variable(20, 16), variable(16, 20, 30, 4)} {
		for n := range l {
			for _, x := range []int{0, 1, 2, 3, 4, 15, 16, 17, 20, 32, 36, 66, 127, 128, 1<<31 - 1} {
				k := slices.Clone(l)
				k[n].number = x
				want := api.ErrOrder
				if x == l[n].number {
					want = api.OK
				}
				sheetOf(t, plain, k...).reads(t, want)
			}
		}
	}
	// Frames in another order, one twice, and one too few.
	s := sheetOf(t, plain, fixed(16, 16, 16)...)
	a, b, c := s.raw[0], s.raw[1], s.raw[2]
	for _, raw := range [][][]byte{{b, a, c}, {a, c, b}, {c, b, a}, {a, a, b, c}, {a, b, b, c}, {a, b, c, c}, {b, c}, {a, c}, {b}, {c}} {
		s.raw = raw
		s.reads(t, api.ErrOrder)
	}
	s.raw = [][]byte{a, b}
	s.reads(t, api.OK)
	s.raw = [][]byte{a}
	s.reads(t, api.OK)
}

func TestBlocksOfOneSize(t *testing.T) {
	for _, c := range []struct {
		e     api.Errno
		sizes []int
	}{
		{api.OK, []int{32, 32, 32}}, {api.OK, []int{32, 32, 31}}, {api.OK, []int{32, 32, 1}}, {api.OK, []int{32, 1}}, {api.OK, []int{32}},
		{api.ErrParam, []int{32, 32, 33}}, {api.ErrParam, []int{32, 33}}, {api.ErrParam, []int{32, 33, 32}}, {api.ErrParam, []int{32, 31, 32}}, {api.ErrParam, []int{32, 31, 31}},
		{api.ErrParam, []int{32, 31, 1}}, {api.ErrParam, []int{32, 32, 31, 32}}, {api.ErrParam, []int{32, 32, 31, 31}}, {api.ErrParam, []int{32, 31, 33}}, {api.ErrParam, []int{32, 32, 65535}}, {api.ErrParam, []int{1, 2}},
		{api.ErrParam, []int{32, 16, 16, 16}},
	} {
		sheetOf(t, plain, fixed(c.sizes...)...).reads(t, c.e)
	}
	// Blocks of several sizes may be in any order; but Covers has an error of one below MinBlock that is not the last one.
	sheetOf(t, plain, variable(32, 33, 31, 65535, 16)...).reads(t, api.OK)
	sheetOf(t, plain, variable(16, 15, 16)...).reads(t, api.ErrParam)
	// The Number is named ahead of the size, and a frame ahead of both.
	sheetOf(t, plain, part{false, 0, 32}, part{false, 2, 33}).reads(t, api.ErrOrder)
	sheetOf(t, plain, part{false, 0, 32}, part{false, 1, 33}, part{false, 7, 32}).reads(t, api.ErrParam)
	sheetOf(t, plain, part{false, 0, 32}, part{false, 7, 32}, part{false, 2, 33}).reads(t, api.ErrOrder)
	s := sheetOf(t, plain, fixed(32, 33, 32)...)
	s.spoilt(2, []byte{0}).reads(t, api.ErrParam)
	s.spoilt(1, []byte{0}).reads(t, api.ErrSync)
	// It is named ahead of what stands in the info.
	s.info.Total = 1
	s.reads(t, api.ErrParam)
}

func TestNoFrames(t *testing.T) {
	s := sheetOf(t, plain)
	s.reads(t, api.ErrNone)
	s.info.Total, s.info.Sum[0] = 5, 1
	s.reads(t, api.ErrNone)
	s.with(pointsBlock(t, point(5, 0, 0))).reads(t, api.ErrNone)
	s.info.Sum = digestOf(16)
	s.reads(t, api.ErrNone)
}

func TestInfoCovers(t *testing.T) {
	s := sheetOf(t, plain, variable(20, 30, 16, 4)...)
	var sizes []int
	for _, b := range s.raw {
		sizes = append(sizes, len(b))
	}
	least, most := slices.Min(sizes), slices.Max(sizes)
	for _, c := range []struct {
		e      api.Errno
		change func(i *info.Info)
	}{
		{api.OK, func(i *info.Info) { i.MinBlock, i.MaxBlock, i.MinFrame, i.MaxFrame, i.Total = 16, 30, least, most, 70 }},
		{api.ErrParam, func(i *info.Info) { i.MinBlock = 17 }},
		{api.ErrParam, func(i *info.Info) { i.MaxBlock = 29 }},
		{api.ErrParam, func(i *info.Info) { i.MinFrame = least + 1 }},
		{api.ErrParam, func(i *info.Info) { i.MaxFrame = most - 1 }},
		{api.ErrParam, func(i *info.Info) { i.Total = 69 }},
		{api.ErrParam, func(i *info.Info) { i.Total = 71 }},
		// They are named ahead of the samples' digest, and that ahead of points.
		{api.ErrParam, func(i *info.Info) { i.Total, i.Sum[0] = 71, 1 }},
		{api.ErrMD5, func(i *info.Info) { i.Sum[0] = 1 }},
	} {
		k := s
		c.change(&k.info)
		k.reads(t, c.e)
		if c.e == api.OK {
			c.e = api.ErrForm
		}
		k.with(pointsBlock(t, point(1, 0, 20))).reads(t, c.e)
	}
}

func TestSumOfSamples(t *testing.T) {
	for _, p := range []api.Params{plain, {Rate: 1, Channels: 1, Depth: 4}, {Rate: 1, Channels: 3, Depth: 9}, {Rate: 1, Channels: 8, Depth: 32}, {Rate: 8000, Channels: 2, Depth: 24}} {
		for _, l := range [][]part{fixed(20), fixed(32, 32, 6), variable(20, 30, 16, 4)} {
			s := sheetOf(t, p, l...)
			s.info.Sum = digestOf(p.Depth, waves(p, totalOf(l))...)
			if k := s.reads(t, api.OK); !k.Known() {
				t.Error("not known")
			}
			for n := range s.info.Sum {
				k := s
				k.info.Sum[n] ^= 1
				k.reads(t, api.ErrMD5)
			}
			// One sample more is another number.
			k := waves(p, totalOf(l))
			for i := range k {
				k[i][7] ^= 1
				s.info.Sum = digestOf(p.Depth, k...)
				s.reads(t, api.ErrMD5)
				k[i][7] ^= 1
			}
			s.info.Sum = digestOf(p.Depth, cut(k, 0, totalOf(l)-1)...)
			s.reads(t, api.ErrMD5)
			s.info.Sum = digestOf(p.Depth)
			s.reads(t, api.ErrMD5)
		}
	}
}

func TestPoints(t *testing.T) {
	for _, l := range [][]part{fixed(20), fixed(32, 32, 6), variable(20, 30, 16, 4)} {
		s := sheetOf(t, plain, l...)
		var places []blocks.Point
		sample, offset := 0, 0
		for n, k := range l {
			places = append(places, point(sample, offset, k.size))
			sample, offset = sample+k.size, offset+len(s.raw[n])
		}
		s.with(pointsBlock(t, places...)).reads(t, api.OK)
		s.with(pointsBlock(t, append(slices.Clone(places), kept(), point(-1, 77, 78))...)).reads(t, api.OK)
		s.with(pointsBlock(t)).reads(t, api.OK)
		s.with(block(1, ""), pointsBlock(t, places[len(l)-1]), block(1, "")).reads(t, api.OK)
		for n := range places {
			s.with(pointsBlock(t, places[n])).reads(t, api.OK)
			for _, change := range []func(p *blocks.Point){
				func(p *blocks.Point) { p.Sample++ },
				func(p *blocks.Point) { p.Sample += 15 },
				func(p *blocks.Point) { p.Sample += 1 << 40 },
				func(p *blocks.Point) { p.Offset++ },
				func(p *blocks.Point) { p.Offset += 1 << 40 },
				func(p *blocks.Point) { p.Offset = 42 + p.Offset },
				func(p *blocks.Point) { p.Count++ },
				func(p *blocks.Point) { p.Count-- },
				func(p *blocks.Point) { p.Count = 0 },
			} {
				k := slices.Clone(places)
				change(&k[n])
				s.with(pointsBlock(t, k[n])).reads(t, api.ErrForm)
				if n == len(places)-1 || k[n].Sample < k[n+1].Sample {
					s.with(pointsBlock(t, append(k, kept())...)).reads(t, api.ErrForm)
				}
			}
		}
		// Where a frame would begin behind the last one there is none.
		s.with(pointsBlock(t, point(sample, offset, 0))).reads(t, api.ErrForm)
		s.with(pointsBlock(t, point(1<<62, 0, 0))).reads(t, api.ErrForm)
	}
}

func TestWhatWasReadIsTheCallers(t *testing.T) {
	s := sheetOf(t, plain, fixed(16, 16, 16)...).with(comments(t, "A=b"), block(1, zeros(3)))
	b := s.bytesOf(t)
	want, _ := readOf(b)
	a, e := stream.Read(b)
	if e != api.OK || !same(a, want) {
		t.Fatal(int(e))
	}
	// The bytes are others now, and each list that was answered is too, one after the other.
	for n := range b {
		b[n] = 0x77
	}
	if !same(a, want) {
		t.Error("it shares memory with what was handed in")
	}
	for n := range a.Raw {
		full := a.Raw[n][:cap(a.Raw[n])]
		for k := range full {
			full[k] = 0x55
		}
		for _, l := range a.Frames[n].Samples {
			for k := range l[:cap(l)] {
				l[:cap(l)][k] = 99
			}
		}
		want.Raw[n], want.Frames[n].Samples = a.Raw[n], a.Frames[n].Samples
		if !same(a, want) {
			t.Error("lists share memory")
		}
	}
	for n := range a.Blocks {
		full := a.Blocks[n].Data[:cap(a.Blocks[n].Data)]
		for k := range full {
			full[k] = 0x66
		}
		want.Blocks[n].Data = a.Blocks[n].Data
		if !same(a, want) {
			t.Error("blocks share memory")
		}
	}
	if k, e := stream.Read(s.bytesOf(t)); e != api.OK || !reflect.DeepEqual(k.Raw, s.raw) {
		t.Error(int(e))
	}
}
