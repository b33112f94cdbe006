package blocks_test

import (
	"errors"
	"math"
	"math/rand"
	"slices"
	"testing"

	"jetsam/api"
	"jetsam/blocks"
)

// P12.4.

// teller is a function that tells where these points are, and nothing else.
func teller(l ...blocks.Point) func(sample int) (offset, count int, is bool) {
	return func(sample int) (int, int, bool) {
		for _, p := range l {
			if p.Sample == sample {
				return p.Offset, p.Count, true
			}
		}
		return 0, 0, false
	}
}

// seeks tells that Seekable answers an error, or OK.
func seeks(t *testing.T, want api.Errno, starts func(sample int) (offset, count int, is bool), l ...blocks.Point) {
	t.Helper()
	was := slices.Clone(l)
	if e := blocks.Seekable(l, starts); e != want {
		t.Fatalf("%s: error %d, not %d", brief(l), int(e), int(want))
	}
	if !slices.Equal(l, was) {
		t.Fatal("what was handed in is written into")
	}
}

func TestPointsWhereFramesBegin(t *testing.T) {
	frames := []blocks.Point{point(0, 0, 64), point(64, 100, 64), point(128, 150, 20)}
	starts := teller(frames...)
	seeks(t, api.OK, starts)
	seeks(t, api.OK, starts, frames...)
	seeks(t, api.OK, starts, frames[1])
	seeks(t, api.OK, starts, frames[0], frames[2])
	// In what order they stand is not asked here.
	seeks(t, api.OK, starts, frames[2], frames[0], frames[0])
	far := point(math.MaxInt, math.MaxInt, 65535)
	seeks(t, api.OK, teller(far), far)
}

func TestPointsWhereNoneBegins(t *testing.T) {
	starts := teller(point(0, 0, 64), point(64, 100, 64), point(128, 150, 20))
	right := point(64, 100, 64)
	for _, p := range []blocks.Point{
		point(1, 0, 64), point(63, 100, 64), point(65, 100, 64), point(192, 200, 64), point(math.MaxInt, 0, 0), point(1, 0, 0),
		point(64, 99, 64), point(64, 101, 64), point(64, 0, 64), point(64, -100, 64), point(64, 100+1<<32, 64),
		point(64, 100, 63), point(64, 100, 65), point(64, 100, 0), point(64, 100, 64+65536), point(64, 100, -64),
		point(64, 64, 100), point(0, 100, 64), point(128, 150, 64), point(-2, 0, 0), point(math.MinInt, 0, 0),
	} {
		seeks(t, api.ErrForm, starts, p)
		seeks(t, api.ErrForm, starts, p, right)
		seeks(t, api.ErrForm, starts, right, p)
		seeks(t, api.ErrForm, starts, right, p, right, kept(0, 0))
	}
}

func TestWhatIsToldToBeNoneIsNone(t *testing.T) {
	// The numbers are right, but it tells that nothing begins there.
	seeks(t, api.ErrForm, func(int) (int, int, bool) { return 5, 6, false }, point(1, 5, 6))
	seeks(t, api.ErrForm, func(int) (int, int, bool) { return 0, 0, false }, point(0, 0, 0))
	seeks(t, api.OK, func(int) (int, int, bool) { return 5, 6, true }, point(1, 5, 6), point(2, 5, 6))
}

func TestPlacesThatAreKeptBeginNowhere(t *testing.T) {
	right := point(64, 100, 64)
	starts := teller(right)
	seeks(t, api.OK, starts, kept(0, 0))
	seeks(t, api.OK, starts, kept(7, 8), kept(-1, -1))
	seeks(t, api.OK, starts, right, kept(7, 8))
	seeks(t, api.OK, starts, kept(7, 8), right)
	seeks(t, api.ErrForm, starts, kept(7, 8), point(65, 0, 0))
	// Nothing is asked of them, so what would be told does not count.
	seeks(t, api.OK, teller(point(-1, 3, 4)), kept(7, 8))
	seeks(t, api.OK, func(sample int) (int, int, bool) {
		t.Error("asked of", sample)
		return 0, 0, false
	}, kept(7, 8), kept(0, 0))
}

func TestNoFunction(t *testing.T) {
	seeks(t, api.ErrNone, nil)
	seeks(t, api.ErrNone, nil, kept(0, 0))
	seeks(t, api.ErrNone, nil, point(64, 100, 64))
	if e := blocks.Seekable(nil, teller()); e != api.OK {
		t.Error(int(e))
	}
}

func TestAFunctionThatPanicsTellsNothing(t *testing.T) {
	for _, x := range []any{"so", 1, errors.New("so"), nil} {
		starts := func(sample int) (int, int, bool) {
			if sample == 7 {
				panic(x)
			}
			return 1, 2, true
		}
		seeks(t, api.ErrForm, starts, point(7, 0, 0))
		seeks(t, api.ErrForm, starts, point(6, 1, 2), point(7, 1, 2), point(8, 1, 2))
		seeks(t, api.OK, starts, point(6, 1, 2), point(8, 1, 2))
	}
	var none []int
	seeks(t, api.ErrForm, func(sample int) (int, int, bool) { return none[sample], 0, true }, point(0, 0, 0))
}

func TestAnyPointsHeldAgainstFrames(t *testing.T) {
	rng := rand.New(rand.NewSource(9))
	right := 0
	for range 30000 {
		frames := map[int]blocks.Point{}
		for n := range 8 {
			frames[n*64] = point(n*64, n*100+rng.Intn(50), some(rng, 64, 64, 20))
		}
		starts := func(sample int) (int, int, bool) {
			p, is := frames[sample]
			return p.Offset, p.Count, is
		}
		want := api.OK
		var l []blocks.Point
		for range rng.Intn(6) {
			p := frames[rng.Intn(8)*64]
			switch rng.Intn(20) {
			case 0:
				p.Sample += some(rng, 1, -1)
			case 1:
				p.Offset += some(rng, 1, -1)
			case 2:
				p.Count += some(rng, 1, -1)
			case 3, 4, 5:
				p = kept(rng.Intn(3), rng.Intn(3))
			}
			if p.Sample != -1 && frames[p.Sample] != p {
				want = api.ErrForm
			}
			l = append(l, p)
		}
		seeks(t, want, starts, l...)
		if want == api.OK {
			right++
		}
	}
	if right < 5000 || right > 25000 {
		t.Error(right)
	}
}
