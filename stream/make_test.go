package stream_test

import (
	"bytes"
	"math/rand"
	"slices"
	"testing"

	"jetsam/api"
	"jetsam/blocks"
	"jetsam/frame"
	"jetsam/info"
	"jetsam/stream"
)

// P14.3.

// mayBeMade tells whether a stream may have frames of such sizes.
func mayBeMade(p api.Params, isVariable bool, sizes []int, samples [][]int) bool {
	if p.Channels != len(samples) || len(sizes) == 0 {
		return false
	}
	total := 0
	for _, size := range sizes {
		total += size
	}
	for _, l := range samples {
		if len(l) != total {
			return false
		}
	}
	ahead, last := slices.Clone(sizes[:len(sizes)-1]), sizes[len(sizes)-1]
	slices.Sort(ahead)
	all := append(slices.Clone(ahead), last)
	if slices.Min(all) < 1 || slices.Max(all) > 65535 || len(ahead) > 0 && ahead[0] < 16 {
		return false
	}
	return isVariable || len(ahead) == 0 || len(slices.Compact(ahead)) == 1 && last <= ahead[0]
}

// madeOf is what Make has to answer.
func madeOf(p api.Params, isVariable bool, sizes []int, samples [][]int) ([]byte, api.Errno) {
	if !mayBeMade(p, isVariable, sizes, samples) || len(samples) == 0 {
		return nil, api.ErrParam
	}
	var pieces []info.Piece
	var raw []byte
	sample := 0
	for n, size := range sizes {
		f, e := frame.Make(isVariable, map[bool]int{false: n, true: sample}[isVariable], p, cut(samples, sample, sample+size)...)
		if e != api.OK {
			return nil, e
		}
		b, e := frame.Write(f, p)
		if e != api.OK {
			return nil, e
		}
		pieces = append(pieces, info.Piece{Block: size, Bytes: len(b)})
		raw, sample = append(raw, b...), sample+size
	}
	d, e := info.Write(info.Of(p, digestOf(p.Depth, samples...), pieces...))
	if e != api.OK {
		return nil, e
	}
	return []byte("fLaC\x80\x00\x00\x22" + string(d) + string(raw)), api.OK
}

// makes tells that Make answers what it has to.
func makes(t *testing.T, want api.Errno, p api.Params, isVariable bool, sizes []int, samples ...[]int) []byte {
	t.Helper()
	wasSizes := slices.Clone(sizes)
	wasSamples := make([][]int, len(samples))
	for i, l := range samples {
		wasSamples[i] = slices.Clone(l)
	}
	b, e := stream.Make(p, isVariable, sizes, samples...)
	wantB, f := madeOf(p, isVariable, sizes, samples)
	if !bytes.Equal(b, wantB) || e != want || f != want {
		t.Fatalf("%v, %v, %v, %s: %.80x, error %d, not %.80x, error %d, %d", p, isVariable, sizes, brief(samples), b, int(e), wantB, int(want), int(f))
	}
	if !slices.Equal(sizes, wasSizes) || !slices.EqualFunc(samples, wasSamples, slices.Equal[[]int]) {
		t.Fatal("what was handed in is written into")
	}
	return b
}

func TestMakesTheExample(t *testing.T) {
	p := api.Params{Rate: 8000, Channels: 1, Depth: 8}
	b := makes(t, api.OK, p, false, []int{16, 4}, make([]int, 20))
	sum := digestOf(8, make([]int, 20))
	ahead := "fLaC\x80\x00\x00\x22" + "\x00\x10\x00\x10\x00\x00\x0b\x00\x00\x0b\x01\xf4\x00\x70\x00\x00\x00\x14" + string(sum[:])
	first := "\xff\xf8\x64\x02\x00\x0f"
	second := "\xff\xf8\x64\x02\x01\x03"
	if string(b[:42]) != ahead || len(b) != 42+11+11 || string(b[42:48]) != first || string(b[53:59]) != second {
		t.Fatalf("%x", b)
	}
	s := reads(t, api.OK, b)
	var at []int
	for q := range s.Places() {
		at = append(at, q.Sample)
	}
	if !slices.Equal(at, []int{0, 16}) {
		t.Error(at)
	}
}

func TestMakesFramesOfAnySizes(t *testing.T) {
	steps := []int{-1, 0, 1, 15, 16, 17, 32}
	for _, isVariable := range []bool{false, true} {
		for _, a := range steps {
			for _, b := range append(steps, 1<<40) {
				for _, c := range append(steps, 1<<40) {
					sizes := []int{a}
					if b != 1<<40 {
						sizes = append(sizes, b)
					}
					if c != 1<<40 {
						sizes = append(sizes, c)
					}
					total := 0
					for _, size := range sizes {
						total += size
					}
					for _, n := range []int{total, total - 1, total + 1} {
						l := [][]int{make([]int, max(0, n)), make([]int, max(0, n))}
						want := api.ErrParam
						if mayBeMade(plain, isVariable, sizes, l) {
							want = api.OK
						}
						makes(t, want, plain, isVariable, sizes, l...)
					}
				}
			}
		}
	}
}

func TestSizesByHand(t *testing.T) {
	p := api.Params{Rate: 8000, Channels: 1, Depth: 8}
	for _, c := range []struct {
		fixed, variable api.Errno
		sizes           []int
	}{
		{api.OK, api.OK, []int{1}},
		{api.OK, api.OK, []int{15}},
		{api.OK, api.OK, []int{65535}},
		{api.OK, api.OK, []int{65535, 65535}},
		{api.OK, api.OK, []int{16, 16, 1}},
		{api.OK, api.OK, []int{16, 16, 16}},
		{api.ErrParam, api.OK, []int{16, 17}},
		{api.ErrParam, api.OK, []int{16, 16, 17}},
		{api.ErrParam, api.OK, []int{17, 16, 16}},
		{api.ErrParam, api.OK, []int{16, 17, 16}},
		{api.ErrParam, api.OK, []int{17, 16, 17}},
		{api.ErrParam, api.OK, []int{16, 65535}},
		{api.ErrParam, api.OK, []int{65535, 16, 1}},
		{api.ErrParam, api.ErrParam, []int{15, 1}},
		{api.ErrParam, api.ErrParam, []int{15, 15}},
		{api.ErrParam, api.ErrParam, []int{16, 15, 16}},
		{api.ErrParam, api.ErrParam, []int{16, 0}},
		{api.ErrParam, api.ErrParam, []int{0, 16}},
		{api.ErrParam, api.ErrParam, []int{0}},
		{api.ErrParam, api.ErrParam, []int{65536}},
		{api.ErrParam, api.ErrParam, []int{65536, 65536}},
		{api.ErrParam, api.ErrParam, []int{65536, 1}},
		{api.ErrParam, api.ErrParam, []int{16, 65536}},
		{api.ErrParam, api.ErrParam, nil},
		{api.ErrParam, api.ErrParam, []int{}},
		{api.ErrParam, api.ErrParam, []int{20, -4}},
		{api.ErrParam, api.ErrParam, []int{-16, 32}},
	} {
		total := 0
		for _, size := range c.sizes {
			total += size
		}
		makes(t, c.fixed, p, false, c.sizes, make([]int, total))
		makes(t, c.variable, p, true, c.sizes, make([]int, total))
		for _, n := range []int{total - 1, total + 1} {
			makes(t, api.ErrParam, p, true, c.sizes, make([]int, max(0, n)))
		}
	}
	for _, n := range farNumbers {
		makes(t, api.ErrParam, p, true, []int{n}, make([]int, 20))
		makes(t, api.ErrParam, p, true, []int{16, n}, make([]int, 20))
		makes(t, api.ErrParam, p, false, []int{n, n}, make([]int, 20))
	}
}

func TestChannelsAreAsTold(t *testing.T) {
	for channels := -1; channels <= 10; channels++ {
		for many := range 11 {
			p := api.Params{Rate: 8000, Channels: channels, Depth: 8}
			l := slices.Repeat([][]int{make([]int, 20)}, many)
			want := api.ErrParam
			if channels == many && many > 0 {
				want = api.OK
			}
			if channels == many && many > 8 {
				want = api.ErrArg
			}
			makes(t, want, p, false, []int{16, 4}, l...)
			// None may have other ones.
			for i := range l {
				k := slices.Clone(l)
				k[i] = make([]int, 19)
				if many > 1 {
					makes(t, api.ErrParam, p, false, []int{16, 4}, k...)
				}
			}
		}
	}
	for _, n := range farNumbers {
		makes(t, api.ErrParam, api.Params{Rate: 8000, Channels: n, Depth: 8}, false, []int{20}, make([]int, 20))
	}
	makes(t, api.ErrParam, api.Params{Rate: 8000, Depth: 8}, false, []int{20})
	makes(t, api.ErrParam, api.Params{Rate: 8000, Depth: 8}, false, nil)
	makes(t, api.ErrParam, api.Params{}, true, nil)
	makes(t, api.ErrParam, api.Params{Rate: 8000, Channels: 1, Depth: 8}, true, nil, nil)
	makes(t, api.ErrParam, api.Params{Rate: 8000, Channels: 2, Depth: 8}, true, []int{20}, make([]int, 20), nil)
}

func TestFramesThatMayNotBeMade(t *testing.T) {
	l := func(x int) [][]int { return [][]int{slices.Repeat([]int{x}, 40)} }
	for _, c := range []struct {
		e     api.Errno
		p     api.Params
		sizes []int
		l     [][]int
	}{
		{api.ErrRange, api.Params{Rate: 8000, Channels: 1, Depth: 3}, []int{16, 16, 8}, l(0)},
		{api.ErrRange, api.Params{Rate: 8000, Channels: 1, Depth: 33}, []int{16, 16, 8}, l(0)},
		{api.ErrRange, api.Params{Rate: -1, Channels: 1, Depth: 8}, []int{16, 16, 8}, l(0)},
		{api.ErrRange, api.Params{Rate: 1048576, Channels: 1, Depth: 8}, []int{16, 16, 8}, l(0)},
		{api.ErrRange, api.Params{Rate: 8000, Channels: 1, Depth: 8}, []int{16, 16, 8}, l(128)},
		{api.ErrRange, api.Params{Rate: 8000, Channels: 1, Depth: 8}, []int{16, 16, 8}, l(-129)},
		{api.OK, api.Params{Rate: 8000, Channels: 1, Depth: 8}, []int{16, 16, 8}, l(127)},
		{api.OK, api.Params{Rate: 8000, Channels: 1, Depth: 8}, []int{16, 16, 8}, l(-128)},
		// A Rate of 0 is none of an info's, but a frame may be made of it.
		{api.ErrRange, api.Params{Channels: 1, Depth: 8}, []int{16, 16, 8}, l(0)},
		{api.OK, api.Params{Rate: 1, Channels: 1, Depth: 8}, []int{16, 16, 8}, l(0)},
		// Nine channels are named ahead of samples, and sizes ahead of both.
		{api.ErrArg, api.Params{Rate: 8000, Channels: 9, Depth: 8}, []int{40}, slices.Repeat(l(128), 9)},
		{api.ErrArg, api.Params{Rate: -1, Channels: 9, Depth: 3}, []int{40}, slices.Repeat(l(128), 9)},
		{api.ErrParam, api.Params{Rate: -1, Channels: 9, Depth: 3}, []int{16, 24}, slices.Repeat(l(128), 9)},
		{api.ErrParam, api.Params{Rate: 8000, Channels: 1, Depth: 3}, []int{16, 24}, l(0)},
	} {
		makes(t, c.e, c.p, false, c.sizes, c.l...)
	}
	// A sample that may not be in any place, of any channel.
	for i := range 2 {
		for at := range 40 {
			k := [][]int{make([]int, 40), make([]int, 40)}
			k[i][at] = 1 << 20
			for _, isVariable := range []bool{false, true} {
				makes(t, api.ErrRange, plain, isVariable, []int{16, 16, 8}, k...)
			}
		}
	}
	for _, n := range farNumbers {
		makes(t, api.ErrRange, api.Params{Rate: 8000, Channels: 1, Depth: n}, false, []int{20}, make([]int, 20))
		if n < 0 || n > 1048575 {
			makes(t, api.ErrRange, api.Params{Rate: n, Channels: 1, Depth: 8}, false, []int{20}, make([]int, 20))
		}
	}
}

func TestMakesTheInfo(t *testing.T) {
	for _, c := range []struct {
		isVariable  bool
		sizes       []int
		least, most int
	}{
		{false, []int{5}, 16, 16},
		{false, []int{20}, 20, 20},
		{false, []int{32, 32, 5}, 32, 32},
		{true, []int{32, 20, 5}, 20, 32},
		{true, []int{20, 32, 64}, 20, 64},
		{true, []int{5}, 16, 16},
	} {
		total := 0
		for _, size := range c.sizes {
			total += size
		}
		l := waves(plain, total)
		s := reads(t, api.OK, makes(t, api.OK, plain, c.isVariable, c.sizes, l...))
		if s.Params != plain || s.MinBlock != c.least || s.MaxBlock != c.most || s.Total != total || s.Info.Sum != digestOf(16, l...) || !s.Known() {
			t.Errorf("%+v", s.Info)
		}
		var sizes []int
		for _, b := range s.Raw {
			sizes = append(sizes, len(b))
		}
		if s.MinFrame != slices.Min(sizes) || s.MaxFrame != slices.Max(sizes) {
			t.Errorf("%+v, %v", s.Info, sizes)
		}
		if len(s.Blocks) != 1 || s.Blocks[0].Type != blocks.Info || len(s.Frames) != len(c.sizes) {
			t.Errorf("%+v", s.Blocks)
		}
	}
}

func TestMakesAnyStream(t *testing.T) {
	rng := rand.New(rand.NewSource(6))
	for range 2000 {
		p := randomParams(rng)
		isVariable := rng.Intn(2) == 0
		sizes := randomSizes(rng, isVariable, 1+rng.Intn(5))
		total := 0
		for _, size := range sizes {
			total += size
		}
		l := randomSound(rng, p, total)
		b := makes(t, api.OK, p, isVariable, sizes, l...)
		for n := range b[:cap(b)] {
			b[:cap(b)][n] = 0x77
		}
		makes(t, api.OK, p, isVariable, sizes, l...)
		// Something is another thing.
		n := rng.Intn(len(sizes))
		some(rng, func() { sizes[n]++ }, func() { sizes[n]-- }, func() { sizes = append(sizes, 0) }, func() { p.Channels++ }, func() { p.Depth = 3 }, func() { p.Rate = 0 }, func() { l[0][0] = 1 << 31 })()
		_, e := stream.Make(p, isVariable, sizes, l...)
		if e == api.OK {
			t.Error(p, isVariable, sizes)
		}
		makes(t, e, p, isVariable, sizes, l...)
	}
}
