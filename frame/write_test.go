package frame_test

import (
	"math"
	"math/rand"
	"slices"
	"testing"

	"jetsam/api"
	"jetsam/frame"
	"jetsam/header"
	"jetsam/predict"
	"jetsam/rice"
	"jetsam/subframe"
)

// P10.2, Write.

// wide is a frame of a Mode in which nothing is wrong, of the depth 16, that the header tells: 24 samples, by plans of each
// Kind in turn.
func wide(mode int) frame.Frame {
	f := frame.Frame{Header: withDepth(headerOf(mode, 24), 16)}
	f.RateCode, f.Rate = 9, 44100
	for i := range channelsOf(mode) {
		l := make([]int, f.Block)
		for at := range l {
			l[at] = 100*i + at*at
			if i%4 == subframe.Constant {
				l[at] = i + 1
			}
		}
		f.Samples = append(f.Samples, l)
		one := rice.Plan{Params: []int{3}, Bits: []int{0}}
		f.Plans = append(f.Plans, []subframe.Plan{
			{},
			{Kind: subframe.Verbatim},
			{Kind: subframe.Fixed, Order: 2, Rice: one},
			{Kind: subframe.Linear, Order: 1, Linear: predict.Linear{Precision: 2, Coefs: []int{1}}, Rice: one},
		}[i%4])
	}
	if mode >= 8 {
		f.Plans = verbatim(2)
	}
	return f
}

func TestWritesTheExample(t *testing.T) {
	h := header.Header{BlockCode: 6, RateCode: 9, DepthCode: 1, Block: 4, Rate: 44100, Depth: 8}
	f := frame.Frame{Header: h, Plans: []subframe.Plan{{}}, Samples: [][]int{{3, 3, 3, 3}}}
	for _, p := range []api.Params{{}, {Rate: 44100}, {Channels: 1}, {Depth: 8}, {Rate: 44100, Channels: 1, Depth: 8}} {
		writes(t, f, p, []byte(example))
	}
}

func TestWritesByHand(t *testing.T) {
	const v = "00000010 "
	for _, c := range []struct {
		h        header.Header
		depth    int
		channels [][]int
		plans    []subframe.Plan
		head     string
		text     string
	}{
		{headerOf(0, 1), 4, [][]int{{-8}}, verbatim(1), "\xff\xf8\x70\x00\x00\x00\x00", v + "1000" + "0000"},
		{headerOf(1, 1), 4, [][]int{{-8}, {7}}, verbatim(2), "\xff\xf8\x70\x10\x00\x00\x00", v + "1000" + v + "0111"},
		{headerOf(8, 1), 4, [][]int{{-8}, {7}}, verbatim(2), "\xff\xf8\x70\x80\x00\x00\x00", v + "1000" + v + "10001" + "0000000"},
		{headerOf(9, 1), 4, [][]int{{-8}, {7}}, verbatim(2), "\xff\xf8\x70\x90\x00\x00\x00", v + "10001" + v + "0111" + "0000000"},
		{headerOf(10, 1), 4, [][]int{{-8}, {7}}, verbatim(2), "\xff\xf8\x70\xa0\x00\x00\x00", v + "1111" + v + "10001" + "0000000"},
		{headerOf(10, 1), 32, [][]int{{1<<31 - 1}, {-1 << 31}}, verbatim(2), "\xff\xf8\x70\xa0\x00\x00\x00", v + "11111111111111111111111111111111" + v + "011111111111111111111111111111111" + "0000000"},
		{headerOf(10, 3), 8, [][]int{{5, -5, 127}, {2, 2, 127}}, verbatim(2), "\xff\xf8\x70\xa0\x00\x00\x02", v + "00000011 11111110 01111111" + v + "000000011 111111001 000000000" + "00000"},
		// A side that is the same all along, and one that needs all its bits.
		{headerOf(8, 2), 8, [][]int{{5, 6}, {2, 3}}, []subframe.Plan{{Kind: subframe.Verbatim}, {}}, "\xff\xf8\x70\x80\x00\x00\x01", v + "00000101 00000110" + "00000000" + "000000011" + "0000000"},
		{headerOf(9, 2), 8, [][]int{{127, -1}, {-128, 0}}, []subframe.Plan{{Kind: subframe.Verbatim}, {Kind: subframe.Verbatim, Wasted: 7}}, "\xff\xf8\x70\x90\x00\x00\x01", v + "011111111 111111111" + "00000011 0000001 1 0" + "00000"},
	} {
		f := frame.Frame{Header: c.h, Plans: c.plans, Samples: c.channels}
		writes(t, f, api.Params{Depth: c.depth}, headed(c.head, c.text))
	}
}

func TestWritesAnyFrame(t *testing.T) {
	rng := rand.New(rand.NewSource(9))
	for range 5000 {
		s := randomSound(rng)
		writes(t, s.f, s.p, writtenOf(t, s.f, s.depth))
	}
}

func TestWritesFramesOfEachMode(t *testing.T) {
	for mode := range 11 {
		f := wide(mode)
		b := writtenOf(t, f, 16)
		for _, p := range []api.Params{{}, {Rate: 44100, Channels: channelsOf(mode), Depth: 16}} {
			writes(t, f, p, b)
			reads(t, b, p, got{f, len(b), api.OK})
		}
	}
}

func TestWriteRefusesHeadersFirst(t *testing.T) {
	f := wide(1)
	// What is wrong beside it comes behind: parameters, plans, and samples.
	f.Plans, f.Samples = nil, [][]int{{math.MaxInt}}
	p := api.Params{Rate: 1, Channels: 7, Depth: 3}
	for _, c := range []struct {
		turn func(h *header.Header)
		e    api.Errno
	}{
		{func(h *header.Header) { *h = header.Header{} }, api.ErrCode},
		{func(h *header.Header) { h.BlockCode = 0 }, api.ErrCode},
		{func(h *header.Header) { h.RateCode = 15 }, api.ErrCode},
		{func(h *header.Header) { h.DepthCode = 3 }, api.ErrCode},
		{func(h *header.Header) { h.Mode = 11 }, api.ErrCode},
		{func(h *header.Header) { h.Mode = -1 }, api.ErrCode},
		{func(h *header.Header) { h.Number = -1 }, api.ErrRange},
		{func(h *header.Header) { h.Number = 1 << 31 }, api.ErrRange},
		{func(h *header.Header) { h.Variable, h.Number = true, 1<<36 }, api.ErrRange},
		{func(h *header.Header) { h.Block = 0 }, api.ErrParam},
		{func(h *header.Header) { h.Block = 65536 }, api.ErrParam},
		{func(h *header.Header) { h.Rate = 44101 }, api.ErrParam},
		{func(h *header.Header) { h.Depth = 17 }, api.ErrParam},
	} {
		g := cloned(f)
		c.turn(&g.Header)
		writesError(t, g, p, c.e)
		writesError(t, g, api.Params{}, c.e)
		h := wide(1)
		c.turn(&h.Header)
		writesError(t, h, api.Params{}, c.e)
	}
}

func TestWriteRefusesParametersAheadOfPlansAndSamples(t *testing.T) {
	for mode := range 11 {
		right := wide(mode)
		wrong := cloned(right)
		wrong.Plans, wrong.Samples = wrong.Plans[1:], nil
		beyond := cloned(right)
		beyond.Samples[0][0] = 1 << 40
		for _, f := range []frame.Frame{right, wrong, beyond} {
			for _, p := range []api.Params{{Rate: 8000}, {Rate: -1}, {Channels: channelsOf(mode) + 1}, {Channels: -1}, {Channels: 9}, {Depth: 15}, {Depth: 17}, {Depth: -16}} {
				writesError(t, f, p, api.ErrParam)
			}
			f.DepthCode, f.Depth = 0, 0
			for _, depth := range append([]int{0, 1, 2, 3, 33, 34}, farNumbers...) {
				writesError(t, f, api.Params{Depth: depth}, api.ErrParam)
			}
		}
	}
}

func TestWriteRefusesPlansAndChannelsThatAreTooFewOrTooMany(t *testing.T) {
	for mode := range 11 {
		many := channelsOf(mode)
		for plans := range 12 {
			for channels := range 12 {
				f := wide(mode)
				one := f.Samples[0]
				f.Plans, f.Samples = verbatim(plans), nil
				for range channels {
					f.Samples = append(f.Samples, slices.Clone(one))
				}
				if plans == many && channels == many {
					writes(t, f, api.Params{}, writtenOf(t, f, 16))
					continue
				}
				writesError(t, f, api.Params{}, api.ErrArg)
				// Ahead of a sample that is none, and of a plan that does not fit.
				for i := range f.Plans {
					f.Plans[i].Kind = 7
				}
				for i := range f.Samples {
					f.Samples[i][23] = 1 << 15
				}
				writesError(t, f, api.Params{}, api.ErrArg)
			}
		}
	}
}

func TestWriteRefusesChannelsThatAreNotAsLongAsTheBlock(t *testing.T) {
	for mode := range 11 {
		for at := range channelsOf(mode) {
			for _, n := range []int{0, 1, 23, 25, 48, 65536} {
				f := wide(mode)
				f.Samples[at] = slices.Repeat([]int{1}, n)
				writesError(t, f, api.Params{}, api.ErrArg)
				f.Samples[at] = slices.Repeat([]int{math.MinInt}, n)
				f.Plans[0].Kind = -1
				writesError(t, f, api.Params{}, api.ErrArg)
				// A channel ahead of it, or behind, that is beyond the depth comes behind.
				for i := range f.Samples {
					if i != at {
						f.Samples[i][0] = -1<<15 - 1
					}
				}
				writesError(t, f, api.Params{}, api.ErrArg)
			}
			f := wide(mode)
			f.Samples[at] = nil
			writesError(t, f, api.Params{}, api.ErrArg)
		}
		// All of them as long, but not as the Block.
		f := wide(mode)
		f.Block++
		writesError(t, f, api.Params{}, api.ErrArg)
		f.Block -= 2
		writesError(t, f, api.Params{}, api.ErrArg)
	}
}

func TestWriteRefusesSamplesAheadOfPlans(t *testing.T) {
	for mode := range 11 {
		for at := range channelsOf(mode) {
			for _, i := range []int{0, 1, 12, 23} {
				for _, x := range []int{least(16) - 1, most(16) + 1, 1 << 16, -1 << 17, 1 << 40, 1<<40 + 1, -1<<40 - 1, math.MinInt, math.MaxInt} {
					f := wide(mode)
					f.Samples[at][i] = x
					writesError(t, f, api.Params{}, api.ErrRange)
					// Plans that have what their Kind does not have, or do not fit, are ErrArg and ErrForm.
					f.Plans[0] = subframe.Plan{Kind: subframe.Verbatim, Rice: rice.Plan{Method: 1}}
					writesError(t, f, api.Params{}, api.ErrRange)
					f.Plans[len(f.Plans)-1] = subframe.Plan{}
					writesError(t, f, api.Params{}, api.ErrRange)
				}
			}
		}
	}
}

func TestWritesSamplesAtTheBoundsOfEachDepth(t *testing.T) {
	for mode := range 11 {
		for depth := 4; depth <= 32; depth++ {
			p := api.Params{Depth: depth}
			f := frame.Frame{Header: headerOf(mode, 4), Plans: verbatim(channelsOf(mode))}
			for range channelsOf(mode) {
				f.Samples = append(f.Samples, []int{least(depth), most(depth), least(depth), most(depth)})
			}
			if mode > 0 {
				f.Samples[1] = []int{least(depth), most(depth), most(depth), least(depth)}
			}
			writes(t, f, p, writtenOf(t, f, depth))
			for at := range f.Samples {
				for i := range 4 {
					for _, x := range []int{least(depth) - 1, most(depth) + 1} {
						g := cloned(f)
						g.Samples[at][i] = x
						writesError(t, g, p, api.ErrRange)
						// Also where both channels are, and the side would be small.
						for j := range g.Samples {
							g.Samples[j][i] = x
						}
						writesError(t, g, p, api.ErrRange)
					}
				}
			}
		}
	}
}

// wrongPlans are plans by which no channel of a wide frame may be written, and what is wrong with them.
func wrongPlans() []struct {
	p subframe.Plan
	e api.Errno
} {
	one := rice.Plan{Params: []int{0}, Bits: []int{0}}
	return []struct {
		p subframe.Plan
		e api.Errno
	}{
		{subframe.Plan{Kind: 4}, api.ErrRange},
		{subframe.Plan{Kind: -1}, api.ErrRange},
		{subframe.Plan{Kind: subframe.Fixed, Order: 5, Rice: one}, api.ErrRange},
		{subframe.Plan{Kind: subframe.Verbatim, Wasted: 40}, api.ErrRange},
		{subframe.Plan{Kind: subframe.Verbatim, Wasted: 14}, api.ErrRange},
		{subframe.Plan{Kind: subframe.Verbatim, Rice: one}, api.ErrArg},
		{subframe.Plan{Kind: subframe.Linear, Order: 1, Rice: one}, api.ErrArg},
		{subframe.Plan{Kind: subframe.Fixed}, api.ErrArg},
		{subframe.Plan{Kind: subframe.Fixed, Rice: rice.Plan{Order: 4, Params: make([]int, 16), Bits: make([]int, 16)}}, api.ErrForm},
		{subframe.Plan{Kind: subframe.Fixed, Rice: rice.Plan{Params: []int{15}, Bits: []int{0}}}, api.ErrRange},
		{subframe.Plan{Kind: subframe.Linear, Order: 1, Linear: predict.Linear{Precision: 16, Coefs: []int{1}}, Rice: one}, api.ErrRange},
	}
}

func TestTheFirstPlanThatDoesNotFitIsTold(t *testing.T) {
	for mode := range 11 {
		for at := range channelsOf(mode) {
			for _, c := range wrongPlans() {
				f := wide(mode)
				f.Plans[at] = c.p
				writesError(t, f, api.Params{}, c.e)
				for _, d := range wrongPlans() {
					for i := at + 1; i < len(f.Plans); i++ {
						f.Plans[i] = d.p
					}
					writesError(t, f, api.Params{}, c.e)
				}
			}
		}
	}
}

func TestPlansAreOfWhatIsWrittenOfTheChannels(t *testing.T) {
	// The side is all the same, the samples are not; and the other way round.
	f := frame.Frame{Header: withDepth(headerOf(8, 3), 8), Samples: [][]int{{1, 2, 4}, {2, 3, 5}}}
	f.Plans = []subframe.Plan{{Kind: subframe.Verbatim}, {}}
	writes(t, f, api.Params{}, writtenOf(t, f, 8))
	f.Mode = 1
	writesError(t, f, api.Params{}, api.ErrForm)
	f.Mode, f.Plans = 9, []subframe.Plan{{}, {Kind: subframe.Verbatim}}
	writes(t, f, api.Params{}, writtenOf(t, f, 8))
	f.Mode = 10
	writesError(t, f, api.Params{}, api.ErrForm)
	f.Plans = []subframe.Plan{{Kind: subframe.Verbatim}, {}}
	writes(t, f, api.Params{}, writtenOf(t, f, 8))
	f.Samples = [][]int{{3, 3, 3}, {1, 2, 4}}
	writesError(t, f, api.Params{}, api.ErrForm)
	f.Mode, f.Plans = 8, []subframe.Plan{{}, {Kind: subframe.Verbatim}}
	writes(t, f, api.Params{}, writtenOf(t, f, 8))
	// A side has a bit more, which may all be noughts: 8 of 9.
	f.Samples = [][]int{{0, 0, 0}, {-128, -128, -128}}
	f.Plans = []subframe.Plan{{}, {Wasted: 7}}
	writes(t, f, api.Params{}, writtenOf(t, f, 8))
	f.Plans[1].Wasted = 8
	writesError(t, f, api.Params{}, api.ErrRange)
	f.Samples[1] = []int{0, 0, 0}
	writes(t, f, api.Params{}, writtenOf(t, f, 8))
	f.Plans = []subframe.Plan{{Wasted: 8}, {}}
	writesError(t, f, api.Params{}, api.ErrRange)
}

func TestWriteDoesNotWriteIntoAFrame(t *testing.T) {
	rng := rand.New(rand.NewSource(10))
	for range 3000 {
		s := randomSound(rng)
		// What stands behind a list's length is not written into either.
		for i := range s.f.Samples {
			s.f.Samples[i] = append(s.f.Samples[i], 7, 7, 7)[:s.f.Block]
		}
		before := cloned(s.f)
		b, _ := frame.Write(s.f, s.p)
		for i, l := range s.f.Samples {
			if !slices.Equal(l[:s.f.Block+3][s.f.Block:], []int{7, 7, 7}) {
				t.Fatal(i, l)
			}
		}
		kept := slices.Clone(b)
		for i := range b[:cap(b)] {
			b[:cap(b)][i] = 0x77
		}
		if !same(s.f, before) {
			t.Fatal(short(s.f), short(before))
		}
		writes(t, s.f, s.p, kept)
		overwrite(s.f)
		writes(t, before, s.p, kept)
	}
}

// P10.2, Same.

func TestFramesThatAreTheSame(t *testing.T) {
	rng := rand.New(rand.NewSource(11))
	for range 3000 {
		s := randomSound(rng)
		if !frame.Same(s.f, s.f) || !frame.Same(s.f, cloned(s.f)) || !frame.Same(cloned(s.f), s.f) {
			t.Fatal(short(s.f))
		}
		if other := randomSound(rng).f; frame.Same(s.f, other) != same(s.f, other) {
			t.Fatal(short(s.f), short(other))
		}
	}
	// Also those that may not be; and lists without elements, nil or not.
	empty := subframe.Plan{Linear: predict.Linear{Coefs: []int{}}, Rice: rice.Plan{Params: []int{}, Bits: []int{}}}
	for _, c := range [][2]frame.Frame{
		{{}, {}},
		{{}, {Plans: []subframe.Plan{}, Samples: [][]int{}}},
		{{Samples: [][]int{nil}}, {Samples: [][]int{{}}}},
		{{Plans: []subframe.Plan{{}}}, {Plans: []subframe.Plan{empty}}},
		{{Header: header.Header{Mode: -7}, Samples: [][]int{{1 << 60}}}, {Header: header.Header{Mode: -7}, Samples: [][]int{{1 << 60}}}},
	} {
		if !frame.Same(c[0], c[1]) || !frame.Same(c[1], c[0]) {
			t.Error(short(c))
		}
	}
}

func TestFramesOfWhichAnythingIsAnother(t *testing.T) {
	for mode := range 11 {
		f := wide(mode)
		for i := range f.Plans {
			f.Plans[i] = subframe.Plan{Kind: 3, Linear: predict.Linear{Coefs: []int{1, 2}}, Rice: rice.Plan{Params: []int{3, 4}, Bits: []int{5, 6}}}
		}
		last := len(f.Plans) - 1
		for i, turn := range []func(g *frame.Frame){
			func(g *frame.Frame) { g.Variable = true },
			func(g *frame.Frame) { g.BlockCode++ },
			func(g *frame.Frame) { g.RateCode++ },
			func(g *frame.Frame) { g.Mode++ },
			func(g *frame.Frame) { g.DepthCode++ },
			func(g *frame.Frame) { g.Number++ },
			func(g *frame.Frame) { g.Block++ },
			func(g *frame.Frame) { g.Rate++ },
			func(g *frame.Frame) { g.Depth++ },
			func(g *frame.Frame) { g.Plans = g.Plans[:last] },
			func(g *frame.Frame) { g.Plans = append(g.Plans, g.Plans[last]) },
			func(g *frame.Frame) { g.Plans = nil },
			func(g *frame.Frame) { g.Plans[last].Kind++ },
			func(g *frame.Frame) { g.Plans[0].Order++ },
			func(g *frame.Frame) { g.Plans[last].Wasted++ },
			func(g *frame.Frame) { g.Plans[0].Linear.Precision++ },
			func(g *frame.Frame) { g.Plans[last].Linear.Shift++ },
			func(g *frame.Frame) { g.Plans[0].Linear.Coefs[1]++ },
			func(g *frame.Frame) { g.Plans[last].Linear.Coefs = g.Plans[last].Linear.Coefs[:1] },
			func(g *frame.Frame) { g.Plans[last].Linear.Coefs = nil },
			func(g *frame.Frame) { g.Plans[last].Rice.Method++ },
			func(g *frame.Frame) { g.Plans[0].Rice.Order++ },
			func(g *frame.Frame) { g.Plans[last].Rice.Params[0]++ },
			func(g *frame.Frame) { g.Plans[last].Rice.Params = append(g.Plans[last].Rice.Params, 0) },
			func(g *frame.Frame) { g.Plans[0].Rice.Bits[1]++ },
			func(g *frame.Frame) { g.Plans[last].Rice.Bits = g.Plans[last].Rice.Bits[1:] },
			func(g *frame.Frame) { g.Samples = g.Samples[:last] },
			func(g *frame.Frame) { g.Samples = append(g.Samples, nil) },
			func(g *frame.Frame) { g.Samples = nil },
			func(g *frame.Frame) { g.Samples[last] = g.Samples[last][:23] },
			func(g *frame.Frame) { g.Samples[0] = append(g.Samples[0], 0) },
			func(g *frame.Frame) { g.Samples[last][0]++ },
			func(g *frame.Frame) { g.Samples[0][23]-- },
			func(g *frame.Frame) { g.Samples[last] = nil },
		} {
			g := cloned(f)
			turn(&g)
			if frame.Same(f, g) || frame.Same(g, f) {
				t.Error(mode, i)
			}
		}
	}
	f, g := wide(1), wide(1)
	g.Samples[0], g.Samples[1] = g.Samples[1], g.Samples[0]
	if frame.Same(f, g) {
		t.Error("channels the other way round")
	}
}
