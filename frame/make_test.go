package frame_test

import (
	"math"
	"math/rand"
	"slices"
	"testing"

	"jetsam/api"
	"jetsam/frame"
	"jetsam/header"
	"jetsam/rice"
	"jetsam/stereo"
	"jetsam/subframe"
)

// P10.3.

// makes tells that Make answers what it has to, which is written, and read, by the parameters.
func makes(t *testing.T, variable bool, number int, p api.Params, samples ...[]int) frame.Frame {
	t.Helper()
	want := madeOf(t, variable, number, p, samples)
	f, e := frame.Make(variable, number, p, samples...)
	if !same(f, want) || e != api.OK {
		t.Fatalf("%t, %d, %+v: %s, error %d, not %s", variable, number, p, short(f), int(e), short(want))
	}
	p.Channels = len(samples)
	b := writtenOf(t, f, p.Depth)
	writes(t, f, p, b)
	reads(t, b, p, got{f, len(b), api.OK})
	return f
}

// madeOf is what Make has to answer of what may be.
func madeOf(t *testing.T, variable bool, number int, p api.Params, samples [][]int) frame.Frame {
	t.Helper()
	mode := len(samples) - 1
	if mode == 1 {
		var e api.Errno
		if mode, e = stereo.Best(samples[0], samples[1]); e != api.OK {
			t.Fatal(int(e))
		}
	}
	p.Channels = len(samples)
	h, e := header.Make(variable, number, len(samples[0]), mode, p)
	if e != api.OK {
		t.Fatal(p, number, int(e))
	}
	f := frame.Frame{Header: h, Samples: samples}
	for i, l := range partsOf(mode, samples) {
		plan, e := subframe.Best(bitsOf(p.Depth, mode, i), l...)
		if e != api.OK {
			t.Fatal(p.Depth, mode, i, int(e))
		}
		f.Plans = append(f.Plans, plan)
	}
	return f
}

// refuses tells that it answers an error alone.
func refuses(t *testing.T, want api.Errno, variable bool, number int, p api.Params, samples ...[]int) {
	t.Helper()
	if f, e := frame.Make(variable, number, p, samples...); !same(f, frame.Frame{}) || e != want {
		t.Fatalf("%t, %d, %+v, %s: %s, error %d, not %d", variable, number, p, short(samples), short(f), int(e), int(want))
	}
}

func TestMakesTheExample(t *testing.T) {
	f := makes(t, false, 0, api.Params{Rate: 44100, Channels: 1, Depth: 8}, []int{3, 3, 3, 3})
	writes(t, f, api.Params{}, []byte(example))
}

func TestMakesByHand(t *testing.T) {
	p := api.Params{Rate: 44100, Channels: 2, Depth: 16}
	one := func(param int) rice.Plan { return rice.Plan{Params: []int{param}, Bits: []int{0}} }
	none := rice.Plan{Params: []int{rice.Raw}, Bits: []int{0}}
	for i, c := range []struct {
		left, right []int
		mode        int
		plans       []subframe.Plan
	}{
		{[]int{5, 5, 5}, []int{2, 2, 2}, 9, []subframe.Plan{{}, {Wasted: 1}}},
		{[]int{2, 2, 2}, []int{5, 5, 5}, 8, []subframe.Plan{{Wasted: 1}, {}}},
		{[]int{9}, []int{0}, 1, []subframe.Plan{{}, {}}},
		// The middle, rounded down, is 8 and 9, the side 1 and -1.
		{[]int{9, 9}, []int{8, 10}, 10, []subframe.Plan{{Kind: subframe.Fixed, Order: 1, Rice: one(0)}, {Kind: subframe.Fixed, Rice: one(0)}}},
		{[]int{9, 9}, []int{9, 9}, 8, []subframe.Plan{{}, {}}},
		{[]int{1, 2, 3, 4, 5, 6, 7, 8}, []int{1, 2, 3, 4, 5, 6, 7, 8}, 8, []subframe.Plan{{Kind: subframe.Fixed, Order: 2, Rice: none}, {}}},
		{[]int{0, 0, 0, 0}, []int{8000, -8000, 32000, -32000}, 1, []subframe.Plan{{}, {Kind: subframe.Verbatim, Wasted: 6}}},
	} {
		f, e := frame.Make(false, 3, p, c.left, c.right)
		h := header.Header{BlockCode: 6, RateCode: 9, Mode: c.mode, DepthCode: 4, Number: 3, Block: len(c.left), Rate: 44100, Depth: 16}
		if want := (frame.Frame{Header: h, Plans: c.plans, Samples: [][]int{c.left, c.right}}); !same(f, want) || e != api.OK {
			t.Errorf("%d: %s, error %d, not %s", i, short(f), int(e), short(want))
		}
		makes(t, false, 3, p, c.left, c.right)
	}
}

func TestMakesOneChannelToEight(t *testing.T) {
	rng := rand.New(rand.NewSource(12))
	modes := map[int]int{}
	for range 6000 {
		p := api.Params{Rate: rng.Intn(1 << 20), Depth: 4 + rng.Intn(29)}
		block := 1 + rng.Intn(20)<<rng.Intn(4)
		var channels [][]int
		for i := range 1 + rng.Intn(8) {
			channels = append(channels, randomSamples(rng, block, p.Depth))
			if i == 1 && rng.Intn(2) == 0 {
				copy(channels[1], channels[0][rng.Intn(block):])
			}
		}
		if rng.Intn(3) == 0 {
			// Two channels more often than others; some that are nearly alike.
			channels = [][]int{channels[0], slices.Clone(channels[0])}
			channels[rng.Intn(2)][rng.Intn(block)] = least(p.Depth) + rng.Intn(1<<p.Depth)
			channels[rng.Intn(2)][rng.Intn(block)] = least(p.Depth) + rng.Intn(1<<p.Depth)
		}
		p.Channels = len(channels)
		f := makes(t, rng.Intn(2) == 0, rng.Intn(1<<31), p, channels...)
		modes[f.Mode]++
	}
	for mode := range 11 {
		if modes[mode] < 50 {
			t.Error("too few of the Mode", mode, modes[mode])
		}
	}
}

func TestMakesEachDepthAtItsBounds(t *testing.T) {
	for depth := 4; depth <= 32; depth++ {
		low, high := least(depth), most(depth)
		p := api.Params{Rate: 48000, Depth: depth}
		for _, l := range [][]int{{low}, {high}, {low, high}, {high, low, low, high}} {
			other := slices.Clone(l)
			for i := range other {
				other[i] = -1 - other[i]
			}
			makes(t, true, 1<<36-1, p, l)
			makes(t, false, 1<<31-1, p, l, other)
			makes(t, false, 0, p, l, l)
			makes(t, false, 0, p, l, l, other, other, l, l, other, other)
			for at := range l {
				for _, x := range []int{low - 1, high + 1, 2 * low, math.MinInt, math.MaxInt} {
					wrong := slices.Clone(l)
					wrong[at] = x
					refuses(t, api.ErrRange, true, 0, p, wrong)
					refuses(t, api.ErrRange, true, 0, p, wrong, l)
					refuses(t, api.ErrRange, true, 0, p, l, wrong)
					// The side would be small.
					refuses(t, api.ErrRange, true, 0, p, wrong, wrong)
					refuses(t, api.ErrRange, true, 0, p, l, l, wrong, other)
				}
			}
		}
	}
}

func TestMakeTakesAsManyChannelsAsItIsGiven(t *testing.T) {
	// How many the parameters tell does not count.
	l := []int{3, 1, 4, 1, 5}
	for n := 1; n <= 8; n++ {
		samples := slices.Repeat([][]int{l}, n)
		want := makes(t, false, 9, api.Params{Rate: 8000, Channels: n, Depth: 12}, samples...)
		for _, channels := range []int{0, 1, 2, 3, 8, 9, -1, math.MaxInt} {
			f, e := frame.Make(false, 9, api.Params{Rate: 8000, Channels: channels, Depth: 12}, samples...)
			if !same(f, want) || e != api.OK {
				t.Error(n, channels, short(f), int(e))
			}
		}
	}
}

func TestMakeRefusesNoChannelAndNine(t *testing.T) {
	right := api.Params{Rate: 44100, Channels: 1, Depth: 16}
	wrong := api.Params{Rate: -1, Channels: 99, Depth: 99}
	for _, p := range []api.Params{right, wrong} {
		for _, number := range []int{0, -1, 1 << 40} {
			refuses(t, api.ErrArg, false, number, p)
			refuses(t, api.ErrArg, true, number, p, [][]int{}...)
			for n := 9; n < 20; n++ {
				refuses(t, api.ErrArg, false, number, p, slices.Repeat([][]int{{1, 2}}, n)...)
				refuses(t, api.ErrArg, true, number, p, slices.Repeat([][]int{{1 << 40}}, n)...)
				refuses(t, api.ErrArg, true, number, p, make([][]int, n)...)
			}
		}
	}
}

func TestMakeRefusesAChannelOfAnotherLength(t *testing.T) {
	right := api.Params{Rate: 44100, Channels: 1, Depth: 16}
	wrong := api.Params{Rate: -1, Depth: 99}
	for n := 2; n <= 8; n++ {
		for at := range n {
			for _, long := range []int{0, 1, 4, 6, 65536} {
				samples := slices.Repeat([][]int{{1, 2, 3, 4, 5}}, n)
				samples[at] = slices.Repeat([]int{1 << 20}, long)
				// Ahead of all else that is wrong.
				refuses(t, api.ErrArg, false, 0, right, samples...)
				refuses(t, api.ErrArg, false, -1, wrong, samples...)
				samples[at] = nil
				refuses(t, api.ErrArg, false, 0, right, samples...)
			}
		}
	}
}

func TestMakeRefusesWhatNoHeaderIsMadeOf(t *testing.T) {
	l := []int{1, 2, 3}
	p := api.Params{Rate: 44100, Depth: 16}
	for n := 1; n <= 8; n++ {
		samples := slices.Repeat([][]int{l}, n)
		for _, block := range []int{0, 65536, 70000} {
			refuses(t, api.ErrRange, false, 0, p, slices.Repeat([][]int{make([]int, block)}, n)...)
		}
		for _, rate := range append([]int{-1, 1048576}, farNumbers...) {
			refuses(t, api.ErrRange, false, 0, api.Params{Rate: rate, Depth: 16}, samples...)
		}
		for _, depth := range append([]int{-16, 0, 1, 2, 3, 33, 34, 64}, farNumbers...) {
			refuses(t, api.ErrRange, false, 0, api.Params{Rate: 44100, Depth: depth}, samples...)
		}
		for _, number := range append([]int{1 << 31, 1 << 35}, farNumbers...) {
			refuses(t, api.ErrRange, false, number, p, samples...)
		}
		for _, number := range append([]int{1 << 36, 1<<36 + 1}, farNumbers...) {
			refuses(t, api.ErrRange, true, number, p, samples...)
		}
	}
	refuses(t, api.ErrRange, false, 0, p, nil)
	refuses(t, api.ErrRange, false, 0, p, nil, []int{})
	makes(t, true, 1<<31, p, l)
	makes(t, false, 0, api.Params{Rate: 1048575, Depth: 16}, l, l)
	makes(t, false, 0, api.Params{Depth: 31}, l, l)
}

func TestMakesTheGreatestBlock(t *testing.T) {
	rng := rand.New(rand.NewSource(13))
	l := randomSamples(rng, 65535, 24)
	m := slices.Clone(l)
	for i := range m {
		m[i] /= 1 + i%3
	}
	makes(t, false, 0, api.Params{Rate: 96000, Depth: 24}, l, m)
	makes(t, true, 0, api.Params{Rate: 96000, Depth: 32}, m)
}

func TestMakesWhatIsWrittenByItsParameters(t *testing.T) {
	// A rate and a depth that no code tells: of the depth alone the parameters have to tell.
	f := makes(t, true, 5, api.Params{Rate: 65541, Channels: 2, Depth: 9}, []int{255, -256}, []int{-256, 255})
	if f.Rate != 0 || f.Depth != 0 {
		t.Error(f.Header)
	}
	b := writtenOf(t, f, 9)
	for _, p := range []api.Params{{Depth: 9}, {Rate: 65541, Depth: 9}, {Rate: 8000, Channels: 2, Depth: 9}} {
		writes(t, f, p, b)
		reads(t, b, p, got{f, len(b), api.OK})
	}
	for _, p := range []api.Params{{}, {Rate: 65541}, {Channels: 1, Depth: 9}, {Depth: 3}} {
		writesError(t, f, p, api.ErrParam)
		readsError(t, b, p, api.ErrParam)
	}
	// By 10 bits it is written too, but by 8 no sample of 9 is.
	writes(t, f, api.Params{Depth: 10}, writtenOf(t, f, 10))
	writesError(t, f, api.Params{Depth: 8}, api.ErrRange)
}

func TestMakesFewBytes(t *testing.T) {
	// A wave, and one that is nearly it: no more bytes than of any Mode by plans of Best.
	left, right := make([]int, 1000), make([]int, 1000)
	for i := range left {
		left[i] = int(8000 * math.Sin(float64(i)/20))
		right[i] = left[i] + i%3
	}
	p := api.Params{Rate: 44100, Channels: 2, Depth: 16}
	f := makes(t, false, 0, p, left, right)
	b, _ := frame.Write(f, p)
	if f.Mode == 1 || f.Plans[0].Kind != subframe.Fixed || f.Plans[0].Order < 2 || len(b) > 1000 {
		t.Error(f.Header, f.Plans, len(b))
	}
}

func TestMakeAnswersItsOwn(t *testing.T) {
	rng := rand.New(rand.NewSource(14))
	p := api.Params{Rate: 44100, Depth: 12}
	for range 1000 {
		// Channels that are one list, or overlap.
		all := randomSamples(rng, 40, 12)
		before := slices.Clone(all)
		samples := [][]int{all[:10:12], all[:10], all[5:15], all[30:]}[:1+rng.Intn(4)]
		f, e := frame.Make(false, 1, p, samples...)
		if e != api.OK {
			t.Fatal(int(e))
		}
		want := cloned(f)
		if !slices.Equal(all, before) {
			t.Fatal(all, before)
		}
		for i := range all {
			all[i] ^= 5
		}
		if !same(f, want) {
			t.Fatal(short(f), short(want))
		}
		copy(all, before)
		for i, l := range f.Samples {
			overwrite(frame.Frame{Samples: [][]int{l}})
			if i+1 < len(f.Samples) && !slices.Equal(f.Samples[i+1], want.Samples[i+1]) {
				t.Fatal(i, short(f))
			}
		}
		overwrite(f)
		if again, _ := frame.Make(false, 1, p, samples...); !same(again, want) || !slices.Equal(all, before) {
			t.Fatal(short(again), short(want))
		}
	}
}
