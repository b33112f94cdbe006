package header_test

import (
	"math/rand"
	"slices"
	"testing"

	"jetsam/api"
	"jetsam/header"
)

// P8.3.

// makes tells that Make answers a header.
func makes(t *testing.T, want header.Header, variable bool, number, block, mode int, p api.Params) {
	t.Helper()
	if h, e := header.Make(variable, number, block, mode, p); h != want || e != api.OK {
		t.Fatalf("%t %d %d %d %+v: %+v, error %d, not %+v", variable, number, block, mode, p, h, int(e), want)
	}
	if e := header.Check(want); e != api.OK {
		t.Fatal(want, int(e))
	}
}

// refuses tells that it answers an error alone.
func refuses(t *testing.T, want api.Errno, variable bool, number, block, mode int, p api.Params) {
	t.Helper()
	if h, e := header.Make(variable, number, block, mode, p); h != (header.Header{}) || e != want {
		t.Fatalf("%t %d %d %d %+v: %+v, error %d, not %d", variable, number, block, mode, p, h, int(e), int(want))
	}
}

// codeOf is the first one of some codes by which a number is told.
func codeOf(tells func(code, n int) bool, n int, codes ...int) (code int, found bool) {
	for _, code := range codes {
		if tells(code, n) {
			return code, true
		}
	}
	return 0, false
}

// madeOf is what Make has to answer of what may be.
func madeOf(variable bool, number, block, mode int, p api.Params) header.Header {
	h := header.Header{Variable: variable, Mode: mode, Number: number, Block: block}
	h.BlockCode, _ = codeOf(tellsBlock, block, 1, 2, 3, 4, 5, 8, 9, 10, 11, 12, 13, 14, 15, 6, 7)
	var found bool
	if h.RateCode, found = codeOf(tellsRate, p.Rate, 1, 2, 3, 4, 5, 6, 7, 8, 9, 10, 11, 12, 13, 14); found && p.Rate != 0 {
		h.Rate = p.Rate
	} else {
		h.RateCode = 0
	}
	if h.DepthCode, found = codeOf(tellsDepth, p.Depth, 1, 2, 4, 5, 6, 7); found {
		h.Depth = p.Depth
	}
	return h
}

func TestMakesTheExample(t *testing.T) {
	makes(t, plain(), false, 0, 4096, 10, api.Params{Rate: 44100, Channels: 2, Depth: 16})
}

func TestMakesByHand(t *testing.T) {
	for _, c := range []struct {
		block, rate, depth int
		h                  header.Header
	}{
		{192, 8000, 8, header.Header{BlockCode: 1, RateCode: 4, DepthCode: 1, Block: 192, Rate: 8000, Depth: 8}},
		// Of codes with no bits one, ahead of those with 8, and these ahead of those with 16.
		{256, 7000, 9, header.Header{BlockCode: 8, RateCode: 12, Block: 256, Rate: 7000}},
		{16, 7001, 32, header.Header{BlockCode: 6, RateCode: 13, DepthCode: 7, Block: 16, Rate: 7001, Depth: 32}},
		{257, 65540, 20, header.Header{BlockCode: 7, RateCode: 14, DepthCode: 5, Block: 257, Rate: 65540, Depth: 20}},
		{255, 255000, 24, header.Header{BlockCode: 6, RateCode: 12, DepthCode: 6, Block: 255, Rate: 255000, Depth: 24}},
		{1, 256000, 4, header.Header{BlockCode: 6, RateCode: 14, Block: 1, Rate: 256000}},
		{65535, 65535, 12, header.Header{BlockCode: 7, RateCode: 13, DepthCode: 2, Block: 65535, Rate: 65535, Depth: 12}},
		{32768, 655350, 16, header.Header{BlockCode: 15, RateCode: 14, DepthCode: 4, Block: 32768, Rate: 655350, Depth: 16}},
		{576, 65530, 16, header.Header{BlockCode: 2, RateCode: 13, DepthCode: 4, Block: 576, Rate: 65530, Depth: 16}},
		{4608, 96000, 31, header.Header{BlockCode: 5, RateCode: 11, Block: 4608, Rate: 96000}},
		{4607, 22050, 5, header.Header{BlockCode: 7, RateCode: 6, Block: 4607, Rate: 22050}},
		{1152, 1000, 16, header.Header{BlockCode: 3, RateCode: 12, DepthCode: 4, Block: 1152, Rate: 1000, Depth: 16}},
		{2304, 1, 16, header.Header{BlockCode: 4, RateCode: 13, DepthCode: 4, Block: 2304, Rate: 1, Depth: 16}},
		// Rates that none tells, and none.
		{512, 65541, 16, header.Header{BlockCode: 9, DepthCode: 4, Block: 512, Depth: 16}},
		{512, 65536, 16, header.Header{BlockCode: 9, DepthCode: 4, Block: 512, Depth: 16}},
		{512, 655360, 16, header.Header{BlockCode: 9, DepthCode: 4, Block: 512, Depth: 16}},
		{512, 1048575, 16, header.Header{BlockCode: 9, DepthCode: 4, Block: 512, Depth: 16}},
		{512, 0, 16, header.Header{BlockCode: 9, DepthCode: 4, Block: 512, Depth: 16}},
	} {
		makes(t, c.h, false, 0, c.block, 0, api.Params{Rate: c.rate, Channels: 1, Depth: c.depth})
	}
}

func TestMakesAllBlocks(t *testing.T) {
	p := api.Params{Rate: 44100, Channels: 1, Depth: 16}
	for n := 1; n <= 65535; n++ {
		makes(t, madeOf(false, 1, n, 0, p), false, 1, n, 0, p)
	}
	for _, n := range append([]int{0, -1, 65536, 65537, 1 << 17, 1<<32 + 1}, farNumbers...) {
		refuses(t, api.ErrRange, false, 1, n, 0, p)
	}
}

func TestMakesAllRates(t *testing.T) {
	for n := range 1 << 20 {
		p := api.Params{Rate: n, Channels: 1, Depth: 16}
		makes(t, madeOf(true, 1, 16, 0, p), true, 1, 16, 0, p)
	}
	for _, n := range append([]int{-1, -1000, 1 << 20, 1<<20 + 1, 1<<32 + 44100}, farNumbers...) {
		refuses(t, api.ErrRange, true, 1, 16, 0, api.Params{Rate: n, Channels: 1, Depth: 16})
	}
}

func TestMakesAllDepths(t *testing.T) {
	for _, n := range codesNear() {
		p := api.Params{Rate: 44100, Channels: 1, Depth: n}
		if n >= 4 && n <= 32 {
			makes(t, madeOf(true, 1, 16, 0, p), true, 1, 16, 0, p)
		} else {
			refuses(t, api.ErrRange, true, 1, 16, 0, p)
		}
	}
}

func TestMakesAllModes(t *testing.T) {
	for _, mode := range codesNear() {
		for _, channels := range append([]int{-1, 0, 1, 2, 3, 4, 5, 6, 7, 8, 9, 10}, farNumbers...) {
			p := api.Params{Rate: 44100, Channels: channels, Depth: 16}
			switch {
			case !isMode(mode):
				refuses(t, api.ErrCode, false, 1, 16, mode, p)
			case channelsOf(mode) != channels:
				refuses(t, api.ErrParam, false, 1, 16, mode, p)
			default:
				makes(t, madeOf(false, 1, 16, mode, p), false, 1, 16, mode, p)
			}
		}
	}
}

func TestMakesNumbers(t *testing.T) {
	numbers := slices.Clone(farNumbers)
	for power := range 40 {
		numbers = append(numbers, 1<<power-1, 1<<power, 1<<power+1, -1<<power)
	}
	p := api.Params{Rate: 44100, Channels: 2, Depth: 16}
	for _, n := range numbers {
		for _, variable := range []bool{false, true} {
			if mayBe(variable, n) {
				makes(t, madeOf(variable, n, 16, 8, p), variable, n, 16, 8, p)
			} else {
				refuses(t, api.ErrRange, variable, n, 16, 8, p)
			}
		}
	}
}

func TestWhichErrorOfMakeComesFirst(t *testing.T) {
	for _, block := range []int{0, 16} {
		for _, rate := range []int{-1, 44100} {
			for _, depth := range []int{3, 16} {
				for _, mode := range []int{11, 9} {
					for _, channels := range []int{3, 2} {
						for _, number := range []int{-1, 0} {
							p := api.Params{Rate: rate, Channels: channels, Depth: depth}
							switch {
							case block == 0, rate < 0, depth == 3:
								refuses(t, api.ErrRange, false, number, block, mode, p)
							case mode == 11:
								refuses(t, api.ErrCode, false, number, block, mode, p)
							case channels == 3:
								refuses(t, api.ErrParam, false, number, block, mode, p)
							case number < 0:
								refuses(t, api.ErrRange, false, number, block, mode, p)
							default:
								makes(t, madeOf(false, number, block, mode, p), false, number, block, mode, p)
							}
						}
					}
				}
			}
		}
	}
}

func TestMakesAnyHeaders(t *testing.T) {
	rng := rand.New(rand.NewSource(5))
	for range 50000 {
		// Of what any header tells another one is made, which tells as much in no more bytes.
		h := randomHeader(rng)
		p := api.Params{Rate: h.Rate, Channels: channelsOf(h.Mode), Depth: max(h.Depth, 4)}
		want := madeOf(h.Variable, h.Number, h.Block, h.Mode, p)
		makes(t, want, h.Variable, h.Number, h.Block, h.Mode, p)
		if want.Block != h.Block || want.Rate != h.Rate || want.Depth != h.Depth || len(written(t, want)) > len(written(t, h)) {
			t.Fatal(want, h)
		}
	}
}
