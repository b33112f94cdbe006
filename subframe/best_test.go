package subframe_test

import (
	"math"
	"math/rand"
	"slices"
	"testing"

	"jetsam/api"
	"jetsam/bits"
	"jetsam/predict"
	"jetsam/rice"
	"jetsam/subframe"
)

// P7.3.

// best tells that Best answers a plan.
func best(t *testing.T, want subframe.Plan, depth int, l ...int) {
	t.Helper()
	if p, e := subframe.Best(depth, l...); !same(p, want) || e != api.OK {
		t.Fatalf("depth %d, %d samples %s: %v, error %d, not %v", depth, len(l), short(l), p, int(e), want)
	}
}

// refuses tells that it answers an error alone.
func refuses(t *testing.T, e api.Errno, depth int, l ...int) {
	t.Helper()
	if p, f := subframe.Best(depth, l...); !same(p, subframe.Plan{}) || f != e {
		t.Errorf("depth %d, %d samples %s: %v, error %d, not %d", depth, len(l), short(l), p, int(f), int(e))
	}
}

// size is in how many bits a plan is written.
func size(t *testing.T, p subframe.Plan, depth int, l []int) int {
	t.Helper()
	w := bits.NewWriter()
	if e := subframe.Write(w, p, depth, l...); e != api.OK {
		t.Fatal(p, depth, len(l), int(e))
	}
	return w.Len()
}

// bestOf is what Best has to answer of samples of a depth.
func bestOf(t *testing.T, depth int, l []int) subframe.Plan {
	t.Helper()
	wasted := 0
	own := slices.Clone(l)
	for slices.ContainsFunc(own, func(x int) bool { return x != 0 }) && !slices.ContainsFunc(own, func(x int) bool { return x%2 != 0 }) {
		wasted++
		own = without(own, 1)
	}
	if slices.Min(l) == slices.Max(l) {
		return constant(wasted)
	}
	order := predict.Best(own...)
	p := fixed(order, wasted, rice.Plan{})
	residuals := residualsOf(p, own)
	var e api.Errno
	p.Rice, e = rice.Best(4, order, residuals...)
	// What stands ahead of the samples is as much of both.
	if e == api.OK && order*(depth-wasted)+len(riceText(t, p.Rice, order, residuals)) < len(own)*(depth-wasted) {
		return p
	}
	return verbatim(wasted)
}

func TestBestOfTheExample(t *testing.T) {
	best(t, constant(2), 8, 4, 4, 4)
	if n := size(t, constant(2), 8, []int{4, 4, 4}); n != 16 {
		t.Error(n)
	}
}

func TestBestOfSamplesThatAreTheSame(t *testing.T) {
	for depth := 4; depth <= 33; depth++ {
		for _, n := range []int{1, 2, 3, 16, 17} {
			best(t, constant(0), depth, make([]int, n)...)
			best(t, constant(0), depth, slices.Repeat([]int{-1}, n)...)
			best(t, constant(0), depth, slices.Repeat([]int{most(depth)}, n)...)
			best(t, constant(depth-1), depth, slices.Repeat([]int{least(depth)}, n)...)
			for wasted := range depth - 1 {
				best(t, constant(wasted), depth, slices.Repeat([]int{1 << wasted}, n)...)
				best(t, constant(wasted), depth, slices.Repeat([]int{-1 << wasted}, n)...)
			}
		}
	}
	best(t, constant(0), 8, make([]int, 65535)...)
	best(t, constant(3), 33, slices.Repeat([]int{-24}, 65535)...)
}

func TestBestByHand(t *testing.T) {
	// All is told by the order 2: of a Raw part the Bits, 0, have 5 bits, of the parameter 0 each residual has one.
	best(t, fixed(2, 0, coded(0, 0)), 16, 1, 2, 3, 4, 5, 6, 7)
	best(t, fixed(2, 3, coded(0, 0)), 16, 8, 16, 24, 32, 40, 48, 56)
	best(t, fixed(2, 0, raw(0, 0)), 16, 1, 2, 3, 4, 5, 6, 7, 8)
	best(t, fixed(2, 4, raw(0, 0)), 16, 0, -16, -32, -48, -64, -80, -96, -112, -128)
	best(t, verbatim(0), 4, 7, -8, 7, -8)
	best(t, verbatim(3), 7, 56, -64, 56, -64)
	best(t, verbatim(6), 8, 0, 64)
	best(t, verbatim(7), 8, 0, -128)
}

func TestBestOfAsManyBitsIsVerbatim(t *testing.T) {
	// By the order 0, in one part of the parameter 0: 10 bits, and 1 of a sample that is 0, 3 of one that is 1.
	for _, l := range [][]int{{0, 1}, {0, 0, 1, 0, 0, 0, 0, 1, 0, 0}, {1, 0, 0, 0, 0}} {
		ones := 0
		for _, x := range l {
			ones += x
		}
		many := 10 + len(l) + 2*ones
		for depth := 4; depth <= 33; depth++ {
			want := verbatim(0)
			if many < depth*len(l) {
				want = fixed(0, 0, coded(0, 0))
			}
			best(t, want, depth, l...)
		}
	}
	best(t, verbatim(0), 7, 0, 1)
	best(t, fixed(0, 0, coded(0, 0)), 8, 0, 1)
	best(t, verbatim(26), 33, 0, 1<<26)
	best(t, fixed(0, 25, coded(0, 0)), 33, 0, 1<<25)
}

func TestBestWhereResidualsMayNotBe(t *testing.T) {
	best(t, verbatim(0), 33, most(33), least(33), most(33), least(33), most(33))
	best(t, verbatim(0), 33, append(make([]int, 100), least(33), 1)...)
	best(t, verbatim(0), 32, append(make([]int, 100), least(32), 1)...)
	// What may not be of the samples may be of the divided ones.
	l := append(make([]int, 100), least(33), 4)
	best(t, bestOf(t, 33, l), 33, l...)
	if p, _ := subframe.Best(33, l...); p.Kind != subframe.Fixed || p.Wasted != 2 {
		t.Error(p)
	}
	// One less is a residual.
	l = append(make([]int, 100), 1<<31-1, 1<<31-1, 1<<31-1)
	best(t, bestOf(t, 33, l), 33, l...)
	if p, _ := subframe.Best(33, l...); p.Kind != subframe.Fixed {
		t.Error(p)
	}
}

func TestBestHasNoMoreThanSixteenParts(t *testing.T) {
	// 32 parts that are loud and silent by turns: 32 would be less.
	l := make([]int, 32*64)
	for i := range l {
		if i/64%2 == 0 {
			l[i] = 3000 - 6000*(i%2) + i
		}
	}
	p, e := subframe.Best(16, l...)
	wide, f := rice.Best(5, p.Order, residualsOf(p, l)...)
	if p.Kind != subframe.Fixed || p.Rice.Order > 4 || wide.Order != 5 || e != api.OK || f != api.OK {
		t.Error(p, wide, int(e), int(f))
	}
	best(t, bestOf(t, 16, l), 16, l...)
	// 16 parts, where these are less.
	l = make([]int, 16*64)
	for i := range l {
		if i/64%2 == 0 {
			l[i] = 3000 - 6000*(i%2) + i
		}
	}
	if p, e = subframe.Best(16, l...); p.Kind != subframe.Fixed || p.Rice.Order != 4 || e != api.OK {
		t.Error(p, int(e))
	}
	best(t, bestOf(t, 16, l), 16, l...)
}

func TestBestOfRandomSamples(t *testing.T) {
	rng := rand.New(rand.NewSource(10))
	seen := map[int]int{}
	for range 6000 {
		depth := 4 + rng.Intn(30)
		wasted := 0
		if rng.Intn(2) == 0 {
			wasted = rng.Intn(depth)
		}
		l := with(randomSamples(rng, 1+rng.Intn(60), depth-wasted), wasted)
		want := bestOf(t, depth, l)
		best(t, want, depth, l...)
		seen[want.Kind]++
		if want.Wasted < wasted && slices.Max(l) != slices.Min(l) {
			t.Fatal(want, wasted)
		}
		// It is written, and read again, in no more bits than Verbatim.
		s := channelText(t, want, depth, l)
		reads(t, s, len(l), depth, got{l, want, api.OK, len(s)})
		if n := size(t, verbatim(want.Wasted), depth, l); len(s) > n || want.Kind == subframe.Fixed && len(s) >= n {
			t.Fatal(want, l, len(s), n)
		}
	}
	for _, kind := range []int{subframe.Constant, subframe.Verbatim, subframe.Fixed} {
		if seen[kind] < 100 {
			t.Error("too few of the Kind", kind, seen[kind])
		}
	}
}

func TestBestOfTheGreatestBlocks(t *testing.T) {
	rng := rand.New(rand.NewSource(11))
	for _, depth := range []int{4, 16, 33} {
		l := randomSamples(rng, 65535, depth)
		best(t, bestOf(t, depth, l), depth, l...)
		for i := range l {
			l[i] = i%97 - 48
			l[i] = min(max(l[i], least(depth)), most(depth))
		}
		best(t, bestOf(t, depth, l), depth, l...)
	}
}

func TestBestRefuses(t *testing.T) {
	for _, depth := range append([]int{-4, -1, 0, 1, 2, 3, 34, 35, 64}, farNumbers...) {
		refuses(t, api.ErrArg, depth, 0)
		refuses(t, api.ErrArg, depth, 0, 1, 2)
		refuses(t, api.ErrArg, depth)
		// The samples come behind it.
		refuses(t, api.ErrArg, depth, math.MaxInt, 0)
	}
	refuses(t, api.ErrArg, 8)
	refuses(t, api.ErrArg, 8, nil...)
	refuses(t, api.ErrArg, 8, make([]int, 65536)...)
	refuses(t, api.ErrArg, 8, slices.Repeat([]int{128}, 65536)...)
	for depth := 4; depth <= 33; depth++ {
		for _, x := range []int{least(depth) - 1, most(depth) + 1, 2 * least(depth), math.MinInt, math.MaxInt} {
			refuses(t, api.ErrRange, depth, x)
			refuses(t, api.ErrRange, depth, x, x)
			refuses(t, api.ErrRange, depth, 0, 1, x)
			refuses(t, api.ErrRange, depth, x, 1, 0)
		}
	}
}

func TestABestPlanIsTheCallers(t *testing.T) {
	l := []int{1, 2, 3, 4, 5, 6, 7, 8}
	want := fixed(2, 0, raw(0, 0))
	p, _ := subframe.Best(16, l...)
	for _, m := range [][]int{append(p.Rice.Params, 9, 9), append(p.Rice.Bits, 9, 9)} {
		for i := range m {
			m[i] = 9
		}
	}
	for _, m := range [][]int{p.Rice.Params, p.Rice.Bits} {
		for i := range m {
			m[i] = 9
		}
	}
	best(t, want, 16, l...)
}
