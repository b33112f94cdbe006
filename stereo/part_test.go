package stereo_test

import (
	"math"
	"math/rand"
	"slices"
	"testing"

	"jetsam/api"
	"jetsam/stereo"
)

// P9.1.

func TestExtra(t *testing.T) {
	for _, c := range []struct{ mode, first, second int }{{1, 0, 0}, {stereo.LeftSide, 0, 1}, {stereo.SideRight, 1, 0}, {stereo.MidSide, 0, 1}} {
		if n, m := stereo.Extra(c.mode, 0), stereo.Extra(c.mode, 1); n != c.first || m != c.second {
			t.Error(c.mode, n, m)
		}
	}
}

func TestExtraOfWhatIsNoSide(t *testing.T) {
	channels := []int{0, 1, 2, 3, -1, -2, 7, 8, 256, 257, 1 << 32, 1<<32 + 1, math.MinInt, math.MaxInt}
	for _, mode := range wrongModes() {
		for _, channel := range channels {
			if n := stereo.Extra(mode, channel); n != 0 {
				t.Error(mode, channel, n)
			}
		}
	}
	for _, mode := range modes {
		for _, channel := range channels[2:] {
			if n := stereo.Extra(mode, channel); n != 0 {
				t.Error(mode, channel, n)
			}
		}
	}
}

func TestExtraIsOfTheChannelThatIsTheSide(t *testing.T) {
	left, right := []int{5, -5, 7}, []int{2, 3, -9}
	side := []int{3, -8, 16}
	for _, mode := range modes {
		a, b, _ := stereo.Part(mode, left, right)
		for channel, l := range [][]int{a, b} {
			if slices.Equal(l, side) != (stereo.Extra(mode, channel) == 1) {
				t.Error(mode, channel, l)
			}
		}
	}
}

func TestModesAreNumbered(t *testing.T) {
	if stereo.LeftSide != 8 || stereo.SideRight != 9 || stereo.MidSide != 10 {
		t.Error(stereo.LeftSide, stereo.SideRight, stereo.MidSide)
	}
}

func TestPartByHand(t *testing.T) {
	for i, c := range []struct {
		mode              int
		left, right, a, b []int
	}{
		{1, []int{5}, []int{2}, []int{5}, []int{2}},
		{8, []int{5}, []int{2}, []int{5}, []int{3}},
		{9, []int{5}, []int{2}, []int{3}, []int{2}},
		{10, []int{5}, []int{2}, []int{3}, []int{3}},
		// Rounded down, also below 0.
		{10, []int{-5}, []int{2}, []int{-2}, []int{-7}},
		{10, []int{2}, []int{-5}, []int{-2}, []int{7}},
		{10, []int{-1}, []int{0}, []int{-1}, []int{-1}},
		{10, []int{0}, []int{-1}, []int{-1}, []int{1}},
		{10, []int{-1, 0, 1}, []int{-2, 1, 0}, []int{-2, 0, 0}, []int{1, -1, 1}},
		{10, []int{-5}, []int{-6}, []int{-6}, []int{1}},
		// A side of 0, and a middle of 0.
		{8, []int{4, -4}, []int{4, -4}, []int{4, -4}, []int{0, 0}},
		{9, []int{4, -4}, []int{4, -4}, []int{0, 0}, []int{4, -4}},
		{10, []int{4, -4}, []int{4, -4}, []int{4, -4}, []int{0, 0}},
		{10, []int{4, -4}, []int{-4, 4}, []int{0, 0}, []int{8, -8}},
		// The edges; a side may be twice as great.
		{1, []int{bound, -bound}, []int{-bound, bound}, []int{bound, -bound}, []int{-bound, bound}},
		{8, []int{bound, -bound}, []int{-bound, bound}, []int{bound, -bound}, []int{2 * bound, -2 * bound}},
		{9, []int{bound, -bound}, []int{-bound, bound}, []int{2 * bound, -2 * bound}, []int{-bound, bound}},
		{10, []int{bound, -bound}, []int{-bound, bound}, []int{0, 0}, []int{2 * bound, -2 * bound}},
		{10, []int{bound, -bound}, []int{bound, -bound}, []int{bound, -bound}, []int{0, 0}},
		{10, []int{bound, -bound}, []int{bound - 1, 1 - bound}, []int{bound - 1, -bound}, []int{1, -1}},
		{10, nil, nil, nil, nil},
	} {
		a, b, e := stereo.Part(c.mode, c.left, c.right)
		if !slices.Equal(a, c.a) || !slices.Equal(b, c.b) || e != api.OK {
			t.Error(i, a, b, int(e))
		}
		parts(t, c.mode, c.left, c.right)
	}
}

func TestPartOfNoSamples(t *testing.T) {
	for _, mode := range modes {
		for _, l := range [][]int{nil, {}} {
			if a, b, e := stereo.Part(mode, l, nil); len(a) != 0 || len(b) != 0 || e != api.OK {
				t.Error(mode, a, b, int(e))
			}
		}
	}
}

func TestPartOfRandomChannels(t *testing.T) {
	rng := rand.New(rand.NewSource(1))
	for range 4000 {
		n, about := rng.Intn(40), rng.Intn(41)
		left, right := randomChannel(rng, n, about), randomChannel(rng, n, about)
		opposite := make([]int, n)
		for i, x := range left {
			opposite[i] = -x
		}
		for _, mode := range modes {
			parts(t, mode, left, right)
			parts(t, mode, left, left)
			parts(t, mode, left, opposite)
			parts(t, mode, left, near(rng, left, 2))
		}
	}
	left, right := randomChannel(rng, 65535, 31), randomChannel(rng, 65535, 31)
	for _, mode := range modes {
		parts(t, mode, left, right)
	}
}

func TestRefusesModes(t *testing.T) {
	for _, mode := range wrongModes() {
		refuses(t, api.ErrCode, mode, []int{1, 2}, []int{3, 4})
		refuses(t, api.ErrCode, mode, nil, nil)
		// Ahead of what else is wrong.
		refuses(t, api.ErrCode, mode, []int{1, 2}, []int{3})
		refuses(t, api.ErrCode, mode, []int{bound + 1}, []int{3})
		refuses(t, api.ErrCode, mode, []int{bound + 1}, nil)
	}
}

func TestRefusesChannelsOfWhichOneIsLonger(t *testing.T) {
	for _, mode := range modes {
		for n := range 6 {
			for m := range 6 {
				if n == m {
					continue
				}
				refuses(t, api.ErrArg, mode, make([]int, n), make([]int, m))
				// Ahead of numbers that may not be.
				for _, x := range wrongNumbers() {
					refuses(t, api.ErrArg, mode, slices.Repeat([]int{x}, n), make([]int, m))
					refuses(t, api.ErrArg, mode, make([]int, n), slices.Repeat([]int{x}, m))
				}
			}
		}
		refuses(t, api.ErrArg, mode, []int{1}, nil)
		refuses(t, api.ErrArg, mode, nil, []int{1})
	}
}

func TestRefusesNumbersThatMayNotBe(t *testing.T) {
	for _, mode := range modes {
		for _, x := range wrongNumbers() {
			for n := 1; n < 6; n++ {
				for at := range n {
					wrong := slices.Repeat([]int{5}, n)
					wrong[at] = x
					refuses(t, api.ErrRange, mode, wrong, make([]int, n))
					refuses(t, api.ErrRange, mode, make([]int, n), wrong)
					// The samples, or what is written of them, would be small.
					refuses(t, api.ErrRange, mode, wrong, wrong)
					edge := slices.Repeat([]int{bound}, n)
					refuses(t, api.ErrRange, mode, wrong, edge)
					refuses(t, api.ErrRange, mode, edge, wrong)
				}
			}
		}
		for _, x := range []int{bound, -bound, bound - 1, 1 - bound} {
			parts(t, mode, []int{x, 0, x}, []int{0, x, 0})
			if _, _, e := stereo.Join(mode, []int{x, 0, x}, []int{0, x, 0}); e != api.OK {
				t.Error(mode, x, int(e))
			}
		}
	}
}

func TestPartAndJoinAnswerTheirOwn(t *testing.T) {
	rng := rand.New(rand.NewSource(2))
	for _, turn := range []func(int, []int, []int) ([]int, []int, api.Errno){stereo.Part, stereo.Join} {
		for range 300 {
			mode := modes[rng.Intn(len(modes))]
			all := randomChannel(rng, 30, 20)
			before := slices.Clone(all)
			// Both channels, and what stands behind them, are one list's.
			at, n := rng.Intn(10), rng.Intn(10)
			x, y := all[:n:20], all[at:at+n]
			if rng.Intn(4) == 0 {
				y = x
			}
			a, b, e := turn(mode, x, y)
			keptA, keptB := slices.Clone(a), slices.Clone(b)
			if !slices.Equal(all, before) || e != api.OK {
				t.Fatal(mode, all, before, int(e))
			}
			overwrite(a)
			if !slices.Equal(all, before) || !slices.Equal(b, keptB) {
				t.Fatal(mode, all, before, b, keptB)
			}
			overwrite(b)
			c, d, _ := turn(mode, x, y)
			if !slices.Equal(all, before) || !slices.Equal(c, keptA) || !slices.Equal(d, keptB) {
				t.Fatal(mode, all, before, c, keptA, d, keptB)
			}
		}
	}
}

// overwrite writes into a list, and behind it, as far as its memory goes.
func overwrite(l []int) {
	l = l[:cap(l)]
	for i := range l {
		l[i] = 77777777
	}
}
