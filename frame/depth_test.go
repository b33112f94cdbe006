package frame_test

import (
	"math/rand"
	"testing"

	"jetsam/api"
	"jetsam/frame"
	"jetsam/header"
)

// P10.1, Depth.

// tells tells that Depth answers a depth, or an error alone.
func tells(t *testing.T, h header.Header, p api.Params, depth int, e api.Errno) {
	t.Helper()
	if n, f := frame.Depth(h, p); n != depth || f != e {
		t.Errorf("%+v, %+v: %d, error %d, not %d, error %d", h, p, n, int(f), depth, int(e))
	}
}

func TestADepthIsToldByTheHeaderOrTheParameters(t *testing.T) {
	for depth := 4; depth <= 32; depth++ {
		// By the parameters alone, by the header alone, by both.
		tells(t, header.Header{}, api.Params{Depth: depth}, depth, api.OK)
		tells(t, header.Header{Depth: depth}, api.Params{}, depth, api.OK)
		tells(t, header.Header{Depth: depth}, api.Params{Depth: depth}, depth, api.OK)
		for other := -4; other <= 40; other++ {
			if other != 0 && other != depth {
				tells(t, header.Header{Depth: depth}, api.Params{Depth: other}, 0, api.ErrParam)
				tells(t, header.Header{Depth: other}, api.Params{Depth: depth}, 0, api.ErrParam)
			}
		}
	}
	tells(t, header.Header{}, api.Params{}, 0, api.ErrParam)
	tells(t, header.Header{Rate: 44100}, api.Params{Rate: 44100, Channels: 1}, 0, api.ErrParam)
}

func TestADepthIsFromFourTo32(t *testing.T) {
	for _, depth := range append([]int{-32, -4, 1, 2, 3, 33, 34, 36, 64, 1<<32 + 16}, farNumbers...) {
		tells(t, header.Header{}, api.Params{Depth: depth}, 0, api.ErrParam)
		tells(t, header.Header{Depth: depth}, api.Params{}, 0, api.ErrParam)
		tells(t, header.Header{Depth: depth}, api.Params{Depth: depth}, 0, api.ErrParam)
	}
}

func TestAHeaderFitsARate(t *testing.T) {
	for _, c := range []struct {
		rate, told int
		fits       bool
	}{
		{0, 0, true},
		{0, 44100, true},
		{44100, 0, true},
		{44100, 44100, true},
		{44100, 44101, false},
		{44101, 44100, false},
		{1, -1, false},
		{0, -1, true},
		{-1, 0, true},
		{44100, 1 << 40, false},
		{0, 1 << 40, true},
		{44100, 1<<32 + 44100, false},
	} {
		depth, e := 0, api.ErrParam
		if c.fits {
			depth, e = 16, api.OK
		}
		tells(t, header.Header{Rate: c.rate, Depth: 16}, api.Params{Rate: c.told}, depth, e)
		tells(t, header.Header{Rate: c.rate}, api.Params{Rate: c.told, Depth: 16}, depth, e)
	}
}

func TestAHeaderFitsChannels(t *testing.T) {
	many := append([]int{}, farNumbers...)
	for n := -2; n <= 20; n++ {
		many = append(many, n)
	}
	for mode := range 11 {
		for _, n := range many {
			depth, e := 0, api.ErrParam
			if n == 0 || n == channelsOf(mode) {
				depth, e = 12, api.OK
			}
			tells(t, header.Header{Mode: mode, Depth: 12}, api.Params{Channels: n}, depth, e)
			tells(t, header.Header{Mode: mode}, api.Params{Channels: n, Depth: 12}, depth, e)
		}
	}
	// A Mode that is none has no channels that may be told, but they may be silent.
	for _, mode := range append([]int{11, 12, 15, 256, 264}, farNumbers...) {
		for _, n := range many {
			depth, e := 0, api.ErrParam
			if n == 0 {
				depth, e = 12, api.OK
			}
			tells(t, header.Header{Mode: mode, Depth: 12}, api.Params{Channels: n}, depth, e)
		}
	}
}

func TestDepthOfAnyHeader(t *testing.T) {
	rng := rand.New(rand.NewSource(1))
	some := func(l ...int) int { return l[rng.Intn(len(l))] }
	right := 0
	for range 100000 {
		h := header.Header{Mode: rng.Intn(13) - 1, Rate: some(0, 8000, 44100, -1), Depth: some(0, 3, 4, 5, 8, 16, 31, 32, 33)}
		p := api.Params{Channels: some(0, 1, 2, 2, 3, 8, -1), Rate: some(0, 8000, 44100, -1), Depth: some(0, 0, h.Depth, 3, 4, 16, 32, 33)}
		depth, e := depthOf(h, p)
		tells(t, h, p, depth, e)
		if e == api.OK {
			right++
		}
		// What else a header has does not count.
		h.Variable, h.BlockCode, h.RateCode, h.DepthCode, h.Number, h.Block = true, rng.Intn(40), -7, 9, -1, 1<<40
		tells(t, h, p, depth, e)
	}
	if right < 5000 {
		t.Error("too few that fit", right)
	}
}
