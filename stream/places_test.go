package stream_test

import (
	"math/rand"
	"slices"
	"testing"

	"jetsam/api"
	"jetsam/frame"
	"jetsam/header"
	"jetsam/info"
	"jetsam/stream"
)

// P14.2, Samples, Places and Same.

// toldPlaces is all places that are told.
func toldPlaces(s stream.Stream) (l []stream.Place) {
	for p := range s.Places() {
		l = append(l, p)
	}
	return l
}

// soundFrame is a frame of samples, whatever else it has.
func soundFrame(block int, samples ...[]int) frame.Frame {
	return frame.Frame{Header: header.Header{Block: block}, Samples: samples}
}

func TestSamplesOfAllFrames(t *testing.T) {
	for _, c := range []struct {
		s    stream.Stream
		want [][]int
	}{
		{stream.Stream{}, nil},
		{stream.Stream{Frames: []frame.Frame{soundFrame(2, []int{1, 2})}}, [][]int{{1, 2}}},
		{stream.Stream{Frames: []frame.Frame{soundFrame(2, []int{1, 2}, []int{3, 4}), soundFrame(1, []int{5}, []int{6})}}, [][]int{{1, 2, 5}, {3, 4, 6}}},
		{stream.Stream{Frames: []frame.Frame{soundFrame(1, []int{1}), soundFrame(1, []int{2}), soundFrame(1, []int{1})}}, [][]int{{1, 2, 1}}},
	} {
		l := c.s.Samples()
		if !slices.EqualFunc(l, c.want, slices.Equal[[]int]) {
			t.Error(l, c.want)
		}
		for i := range l {
			for n := range l[i][:cap(l[i])] {
				l[i][:cap(l[i])][n] = 99
			}
		}
		if l := c.s.Samples(); !slices.EqualFunc(l, c.want, slices.Equal[[]int]) {
			t.Error("the samples share memory", l, c.want)
		}
	}
}

func TestCallsOfStreamsThatWereNotRead(t *testing.T) {
	// None of them panics, whatever a stream is put together of.
	none := info.Info{Params: api.Params{Channels: 1 << 40, Depth: -1}}
	frames := []frame.Frame{soundFrame(7, []int{1, 2}), {}, soundFrame(-3, nil, []int{3}, []int{4, 5}), soundFrame(1<<62, []int{6})}
	for _, s := range []stream.Stream{
		{Info: none}, {Info: none, Raw: [][]byte{{1}}}, {Frames: frames}, {Info: none, Frames: frames, Raw: [][]byte{{1, 2}, nil}}, {Frames: frames, Raw: make([][]byte, 9)},
	} {
		if l := toldPlaces(s); len(l) != len(s.Frames) {
			t.Error(l)
		}
		_ = s.Samples()
		if !s.Same(s) || s.Same(stream.Stream{Info: info.Info{Params: plain}}) {
			t.Error("not the same as itself, or the same as another one")
		}
	}
}

func TestPlaces(t *testing.T) {
	for _, l := range [][]part{fixed(20), fixed(32, 32, 6), fixed(16, 16, 16, 16), variable(20, 30, 16, 4), variable(16, 65535)} {
		sheet := sheetOf(t, plain, l...)
		s := sheet.with(block(1, zeros(77))).reads(t, api.OK)
		var want []stream.Place
		sample, offset := 0, 0
		for n, k := range l {
			want = append(want, stream.Place{Sample: sample, Offset: offset, Block: k.size, Bytes: len(sheet.raw[n])})
			sample, offset = sample+k.size, offset+len(sheet.raw[n])
		}
		if got := toldPlaces(s); !slices.Equal(got, want) {
			t.Error(got, want)
		}
		// Left early, it tells no more; and all of them again.
		seq := s.Places()
		for many := range len(l) {
			var got []stream.Place
			for p := range seq {
				got = append(got, p)
				if len(got) == many+1 {
					break
				}
			}
			if !slices.Equal(got, want[:many+1]) {
				t.Error(many, got)
			}
		}
		// They stay what they were when it was asked.
		s.Frames[0].Block, s.Raw[0] = 9, nil
		if got := slices.Collect(seq); !slices.Equal(got, want) {
			t.Error(got, want)
		}
	}
}

func TestNoPlaces(t *testing.T) {
	for _, s := range []stream.Stream{{}, {Raw: [][]byte{{1, 2, 3}}}} {
		seq := s.Places()
		if seq == nil {
			t.Fatal("no iterator")
		}
		for p := range seq {
			t.Error(p)
		}
	}
}

func TestSame(t *testing.T) {
	l := waves(plain, 64)
	made := func(p api.Params, isVariable bool, l [][]int, sizes ...int) stream.Stream {
		t.Helper()
		s, e := stream.Read(makes(t, api.OK, p, isVariable, sizes, l...))
		if e != api.OK {
			t.Fatal(int(e))
		}
		return s
	}
	a := made(plain, false, l, 32, 32)
	for _, o := range []stream.Stream{
		a, made(plain, false, l, 16, 16, 16, 16), made(plain, true, l, 20, 44), made(plain, false, l, 64), sheetOf(t, plain, fixed(60, 4)...).with(block(1, "\x00")).reads(t, api.OK),
	} {
		if !a.Same(o) || !o.Same(a) {
			t.Error("not the same", toldPlaces(o))
		}
	}
	others := []stream.Stream{
		{},
		made(plain, false, cut(l, 0, 63), 32, 31),
		made(plain, false, cut(l, 0, 32), 32),
		made(plain, false, cut(l, 32, 64), 32),
		made(plain, false, [][]int{l[1], l[0]}, 32, 32),
		made(api.Params{Rate: 44101, Channels: 2, Depth: 16}, false, l, 32, 32),
		made(api.Params{Rate: 44100, Channels: 2, Depth: 17}, false, l, 32, 32),
		made(api.Params{Rate: 44100, Channels: 1, Depth: 16}, false, l[:1], 32, 32),
		made(api.Params{Rate: 44100, Channels: 3, Depth: 16}, false, [][]int{l[0], l[1], l[0]}, 32, 32),
	}
	rng := rand.New(rand.NewSource(7))
	for range 200 {
		k := cut(l, 0, 64)
		k[rng.Intn(2)][rng.Intn(64)] ^= 1
		others = append(others, made(plain, false, k, 32, 32))
	}
	for _, o := range others {
		if a.Same(o) || o.Same(a) {
			t.Errorf("the same: %+v", o.Info)
		}
		if !o.Same(o) {
			t.Error("not the same as itself")
		}
	}
	// The samples count, not the info's digest, or its other numbers.
	o := a
	o.Info.Sum, o.Total, o.MinBlock, o.Blocks, o.Raw = [16]byte{}, 7, 9, nil, nil
	if !a.Same(o) {
		t.Error("not the same")
	}
}

func TestWhatIsPromoted(t *testing.T) {
	s := sheetOf(t, plain, fixed(32, 32, 6)...).reads(t, api.OK)
	if s.Known() || s.Covers(info.Piece{Block: 32, Bytes: 9}) != api.OK || s.Covers() != api.ErrNone || s.Rate != 44100 || s.Channels != 2 || s.Depth != 16 {
		t.Errorf("%+v", s.Info)
	}
}
