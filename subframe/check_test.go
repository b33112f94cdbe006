package subframe_test

import (
	"math"
	"math/rand"
	"slices"
	"testing"

	"jetsam/api"
	"jetsam/bits"
	"jetsam/predict"
	"jetsam/rice"
	"jetsam/subframe"
)

// P7.1, Check. (Write answers each error of Check's, and writes nothing then.)

// checks tells that Check answers an error, and Write too.
func checks(t *testing.T, want api.Errno, p subframe.Plan, depth int, l ...int) {
	t.Helper()
	if e := subframe.Check(p, depth, l...); e != want {
		t.Errorf("%s, depth %d, %d samples %s: error %d, not %d", short(p), depth, len(l), short(l), int(e), int(want))
	}
	w := bits.NewWriter()
	w.Put(3, 5)
	if e := subframe.Write(w, p, depth, l...); e != want {
		t.Errorf("%s, depth %d, %d samples %s: Write: error %d, not %d", short(p), depth, len(l), short(l), int(e), int(want))
	}
	if want != api.OK && (w.Len() != 3 || w.Bytes()[0] != 0xa0) {
		t.Errorf("%s, depth %d, %d samples %s: written: %x", short(p), depth, len(l), short(l), w.Bytes())
	}
	if e := subframe.Write(nil, p, depth, l...); e != api.ErrNil {
		t.Errorf("%s, depth %d: a nil Writer: error %d", short(p), depth, int(e))
	}
}

var farNumbers = []int{math.MinInt, math.MinInt + 1, -1 << 32, -1 << 16, 1 << 16, 1 << 32, 1<<32 + 8, math.MaxInt - 1, math.MaxInt}

func TestChecksDepths(t *testing.T) {
	for depth := -3; depth <= 70; depth++ {
		want := api.ErrArg
		if depth >= 4 && depth <= 33 {
			want = api.OK
		}
		checks(t, want, constant(0), depth, 0)
		checks(t, want, verbatim(1), depth, 0, 2, -2)
		checks(t, want, fixed(1, 0, coded(0, 0)), depth, 1, 1)
		checks(t, want, linear(0, telling(2, 0, 1), coded(1, 0)), depth, 1, 1)
	}
	for _, depth := range farNumbers {
		checks(t, api.ErrArg, constant(0), depth, 0)
	}
}

func TestChecksHowManySamples(t *testing.T) {
	for _, p := range []subframe.Plan{constant(0), verbatim(3), fixed(0, 0, coded(0, 0)), linear(0, telling(1, 0, 0), coded(0, 0))} {
		checks(t, api.ErrArg, p, 8)
		checks(t, api.ErrArg, p, 8, nil...)
		checks(t, api.ErrArg, p, 8, make([]int, 65536)...)
		checks(t, api.ErrArg, p, 8, make([]int, 1<<17)...)
		checks(t, api.OK, p, 8, make([]int, 65535)...)
	}
	checks(t, api.OK, constant(0), 8, 1)
	checks(t, api.OK, verbatim(0), 8, 1)
	checks(t, api.OK, fixed(0, 0, coded(0, 0)), 8, 1)
}

func TestChecksKindsAndOrders(t *testing.T) {
	numbers := slices.Clone(farNumbers)
	for n := -3; n <= 70; n++ {
		numbers = append(numbers, n)
	}
	l := make([]int, 80)
	for _, kind := range numbers {
		for _, order := range numbers {
			p := subframe.Plan{Kind: kind, Order: order}
			want := api.ErrRange
			switch {
			case kind == subframe.Constant && order == 0, kind == subframe.Verbatim && order == 0:
				want = api.OK
			case kind == subframe.Fixed && order >= 0 && order <= 4:
				p.Rice = coded(0, 0)
				want = api.OK
			case kind == subframe.Linear && order >= 1 && order <= 32:
				p.Rice = coded(0, 0)
				p.Linear = telling(1, 0, make([]int, order)...)
				want = api.OK
			}
			checks(t, want, p, 8, l...)
		}
	}
}

func TestChecksWasted(t *testing.T) {
	for depth := 4; depth <= 33; depth++ {
		for wasted := -2; wasted <= 70; wasted++ {
			want := api.ErrRange
			if wasted >= 0 && wasted < depth {
				want = api.OK
			}
			checks(t, want, constant(wasted), depth, 0)
			checks(t, want, verbatim(wasted), depth, 0, least(depth))
			checks(t, want, fixed(0, wasted, coded(0, 0)), depth, 0, 0)
		}
		for _, wasted := range farNumbers {
			checks(t, api.ErrRange, constant(wasted), depth, 0)
		}
	}
}

func TestChecksThatAPlanHasNoMoreThanItsKind(t *testing.T) {
	rices := []rice.Plan{{Method: 1}, {Method: -1}, {Order: 1}, {Order: -1}, {Params: []int{0}}, {Bits: []int{0}}, coded(0, 0), raw(1, 0, 0)}
	linears := []predict.Linear{{Precision: 1}, {Precision: -1}, {Shift: 1}, {Shift: -1}, {Coefs: []int{0}}, telling(1, 0, 0), telling(4, 0, 1)}
	for _, l := range [][]int{{0}, {0, 0, 0, 0}, {1, 1}} {
		for _, p := range []subframe.Plan{constant(0), verbatim(0)} {
			for _, r := range rices {
				p.Rice = r
				checks(t, api.ErrArg, p, 8, l...)
			}
			p.Rice = rice.Plan{}
			for _, q := range linears {
				p.Linear = q
				checks(t, api.ErrArg, p, 8, l...)
			}
		}
		for order := range 5 {
			for _, q := range linears {
				p := fixed(order, 0, coded(0, 0))
				p.Linear = q
				checks(t, api.ErrArg, p, 8, l...)
			}
		}
	}
	// Empty is nothing, nil or not.
	for _, kind := range []int{subframe.Constant, subframe.Verbatim} {
		p := subframe.Plan{Kind: kind, Linear: telling(0, 0, []int{}...), Rice: rice.Plan{Params: []int{}, Bits: []int{}}}
		checks(t, api.OK, p, 8, 3, 3)
	}
	p := fixed(1, 0, coded(0, 0))
	p.Linear.Coefs = make([]int, 0, 5)
	checks(t, api.OK, p, 8, 3, 3)
}

func TestChecksHowManyCoefficients(t *testing.T) {
	l := make([]int, 80)
	for order := 1; order <= 32; order++ {
		for many := range 40 {
			want := api.ErrArg
			if many == order {
				want = api.OK
			}
			p := linear(0, telling(15, 15, make([]int, many)...), coded(1, 0))
			p.Order = order
			checks(t, want, p, 8, l...)
		}
	}
}

func TestChecksSamples(t *testing.T) {
	for depth := 4; depth <= 33; depth++ {
		low, high := least(depth), most(depth)
		for _, p := range []subframe.Plan{constant(0), verbatim(0), fixed(0, 0, raw(1, 31)), linear(0, telling(1, 0, 0), raw(1, 31))} {
			for _, x := range []int{low - 1, high + 1, 2*low - 1, 2*high + 2, 1 << 33, -1 << 34, math.MinInt, math.MaxInt} {
				checks(t, api.ErrRange, p, depth, x)
				checks(t, api.ErrRange, p, depth, 0, 0, x)
				checks(t, api.ErrRange, p, depth, x, 0, 0)
			}
		}
		for _, x := range []int{low, high, low + 1, high - 1, 0, -1} {
			checks(t, api.OK, constant(0), depth, x, x)
			checks(t, api.OK, verbatim(0), depth, x, high, low)
		}
	}
}

func TestChecksThatSamplesAreDivided(t *testing.T) {
	for depth := 4; depth <= 33; depth++ {
		for wasted := 1; wasted < depth; wasted++ {
			by := 1 << wasted
			checks(t, api.OK, verbatim(wasted), depth, 0, -by, least(depth), least(depth)/by*by)
			checks(t, api.OK, verbatim(wasted), depth, most(depth)-(by-1), -by)
			checks(t, api.ErrRange, verbatim(wasted), depth, 0, by/2, 0)
			checks(t, api.ErrRange, verbatim(wasted), depth, least(depth), -1, 0)
			checks(t, api.ErrRange, verbatim(wasted), depth, 0, least(depth)+by/2)
			checks(t, api.ErrRange, constant(wasted), depth, -by/2)
			checks(t, api.ErrRange, fixed(0, wasted, coded(0, 0)), depth, 0, 0, by-1)
			checks(t, api.ErrRange, linear(wasted, telling(1, 0, 0), coded(0, 0)), depth, 1, 0, 0)
		}
	}
}

func TestChecksThatConstantSamplesAreTheSame(t *testing.T) {
	for n := 2; n < 40; n++ {
		for at := range n {
			l := slices.Repeat([]int{4}, n)
			checks(t, api.OK, constant(2), 8, l...)
			l[at] = -4
			checks(t, api.ErrForm, constant(2), 8, l...)
			checks(t, api.OK, verbatim(2), 8, l...)
		}
	}
}

func TestChecksAPrediction(t *testing.T) {
	zeros := make([]int, 12)
	for _, p := range []predict.Linear{telling(0, 0, 0), telling(16, 0, 0), telling(-1, 0, 0), telling(4, -1, 0), telling(4, 16, 0), telling(4, 0, 8), telling(4, 0, -9), telling(1, 0, 1), telling(15, 15, 1<<14, 0), telling(math.MaxInt, math.MinInt, math.MaxInt)} {
		checks(t, api.ErrRange, linear(0, p, coded(0, 0)), 8, zeros...)
		// It comes ahead of residuals' errors.
		checks(t, api.ErrRange, linear(0, p, rice.Plan{}), 8, zeros...)
		checks(t, api.ErrRange, linear(0, p, coded(0, 0, 0)), 8, zeros[:1]...)
	}
	for _, p := range []predict.Linear{telling(1, 0, -1), telling(15, 15, -1<<14, 1<<14-1), telling(4, 0, 7, -8)} {
		checks(t, api.OK, linear(0, p, coded(0, 0)), 8, zeros...)
	}
}

func TestChecksResidualsPlans(t *testing.T) {
	for _, c := range []struct {
		r    rice.Plan
		skip int
		n    int
		e    api.Errno
	}{
		{coded(0, 0), 0, 1, api.OK},
		{rice.Plan{}, 0, 4, api.ErrArg},
		{rice.Plan{Params: []int{0}}, 0, 4, api.ErrArg},
		{rice.Plan{Params: []int{0}, Bits: []int{0, 0}}, 0, 4, api.ErrArg},
		{rice.Plan{Method: 2, Params: []int{0}, Bits: []int{0}}, 0, 4, api.ErrRange},
		{rice.Plan{Order: 16, Params: []int{0}, Bits: []int{0}}, 0, 4, api.ErrRange},
		{rice.Plan{Order: -1, Params: []int{0}, Bits: []int{0}}, 0, 4, api.ErrRange},
		{coded(0, 15), 0, 4, api.ErrRange},
		{coded(1, 15), 0, 4, api.OK},
		{coded(1, 31), 0, 4, api.ErrRange},
		{raw(0, 32), 0, 4, api.ErrRange},
		{raw(0, 31), 0, 4, api.OK},
		// As many samples as the Order, and fewer.
		{coded(0, 0), 1, 1, api.ErrForm},
		{coded(0, 0), 1, 2, api.OK},
		{coded(0, 0), 4, 4, api.ErrForm},
		{coded(0, 0), 4, 1, api.ErrForm},
		{coded(0, 0), 4, 5, api.OK},
		// Parts.
		{coded(0, 0, 0), 0, 3, api.ErrForm},
		{coded(0, 0, 0), 2, 4, api.ErrForm},
		{coded(0, 0, 0), 2, 6, api.OK},
		{coded(0, 0, 0, 0, 0), 1, 8, api.OK},
		{coded(0, 0, 0, 0, 0), 2, 8, api.ErrForm},
		// Which comes first: Method, parts, Params.
		{rice.Plan{Method: 2, Order: 1}, 0, 3, api.ErrRange},
		{rice.Plan{Order: 1}, 0, 3, api.ErrForm},
		{rice.Plan{}, 4, 4, api.ErrForm},
	} {
		l := make([]int, c.n)
		checks(t, c.e, fixed(c.skip, 0, c.r), 8, l...)
		if c.skip > 0 {
			checks(t, c.e, linear(0, telling(1, 0, make([]int, c.skip)...), c.r), 8, l...)
		}
	}
	for order := 1; order <= 32; order++ {
		p := linear(0, telling(3, 1, make([]int, order)...), coded(0, 1))
		for n := 1; n <= order; n++ {
			checks(t, api.ErrForm, p, 16, make([]int, n)...)
		}
		checks(t, api.OK, p, 16, make([]int, order+1)...)
	}
}

func TestChecksResiduals(t *testing.T) {
	// None of a Raw part's Bits, and too great a unary number.
	checks(t, api.OK, fixed(1, 0, raw(0, 3)), 16, 100, 103, 99)
	checks(t, api.ErrRange, fixed(1, 0, raw(0, 3)), 16, 100, 104, 100)
	checks(t, api.OK, fixed(0, 0, coded(0, 0)), 33, 32768)
	checks(t, api.ErrRange, fixed(0, 0, coded(0, 0)), 33, 32769)
	checks(t, api.OK, fixed(0, 4, coded(0, 0)), 33, 32768<<4)
	checks(t, api.ErrRange, fixed(0, 4, coded(0, 0)), 33, 32769<<4)
	// A residual that may not be, of samples that may.
	checks(t, api.OK, fixed(0, 0, coded(1, 30)), 32, most(32), least(32)+1)
	checks(t, api.ErrRange, fixed(0, 0, coded(1, 30)), 32, least(32))
	checks(t, api.ErrRange, fixed(1, 0, coded(1, 30)), 32, most(32), least(32))
	checks(t, api.OK, fixed(0, 1, coded(1, 30)), 33, most(33)-1, least(33)+2)
	checks(t, api.ErrRange, fixed(0, 1, coded(1, 30)), 33, least(33))
	checks(t, api.ErrRange, fixed(4, 0, coded(1, 30)), 33, most(33), least(33), most(33), least(33), most(33))
	checks(t, api.ErrRange, linear(0, telling(15, 0, slices.Repeat([]int{-1 << 14}, 32)...), coded(1, 30)), 33, slices.Repeat([]int{least(33)}, 33)...)
	checks(t, api.OK, linear(0, telling(2, 0, 1), coded(0, 0)), 33, slices.Repeat([]int{least(33)}, 33)...)
	// The prediction is of the divided samples: it rounds, so that it counts.
	p := linear(2, telling(2, 1, 1), raw(0, 1))
	checks(t, api.OK, p, 8, 12, 4, 0)
	p.Wasted = 0
	checks(t, api.ErrRange, p, 8, 12, 4, 0)
}

// fault makes a channel's plan, or its samples, wrong; those that are named ahead come first.
type fault struct {
	e   api.Errno
	put func(c *channel)
}

func TestTheFirstErrorOfCheckCounts(t *testing.T) {
	common := []fault{
		{api.ErrArg, func(c *channel) { c.depth = 34 }},
		{api.ErrRange, func(c *channel) { c.p.Wasted = c.depth }},
	}
	samples := []fault{
		{api.ErrRange, func(c *channel) { c.l[1] = most(35) }},
	}
	rices := []fault{
		{api.ErrRange, func(c *channel) { c.p.Rice.Method = 2 }},
		{api.ErrForm, func(c *channel) { c.l = c.l[:7] }},
		{api.ErrArg, func(c *channel) { c.p.Rice.Bits = nil }},
		{api.ErrRange, func(c *channel) { c.p.Rice.Params[1] = 31 }},
		{api.ErrRange, func(c *channel) { c.l[5] = most(33) }},
	}
	surplus := func(c *channel) { c.p.Linear.Precision = 1 }
	for _, k := range []struct {
		p      subframe.Plan
		faults []fault
	}{
		{constant(0), slices.Concat(common, []fault{{api.ErrArg, surplus}}, samples, []fault{{api.ErrForm, func(c *channel) { c.l[3] = 5 }}})},
		{verbatim(0), slices.Concat(common, []fault{{api.ErrArg, surplus}}, samples)},
		{fixed(1, 0, coded(0, 1, 1)), slices.Concat(common, []fault{{api.ErrArg, surplus}}, samples, rices)},
		{linear(0, telling(3, 0, 1), coded(0, 1, 1)), slices.Concat(common, []fault{
			{api.ErrRange, func(c *channel) { c.p.Order = 0 }},
			{api.ErrArg, func(c *channel) { c.p.Linear.Coefs = []int{1, 1} }},
		}, samples, []fault{{api.ErrRange, func(c *channel) { c.p.Linear.Shift = -1 }}}, rices)},
	} {
		for chosen := range 1 << len(k.faults) {
			c := channel{cloned(k.p), 33, make([]int, 8)}
			want := api.OK
			for i, f := range k.faults {
				if chosen>>i&1 == 0 {
					continue
				}
				f.put(&c)
				if want == api.OK {
					want = f.e
				}
			}
			checks(t, want, c.p, c.depth, c.l...)
		}
	}
}

func TestChecksRandomChannels(t *testing.T) {
	rng := rand.New(rand.NewSource(1))
	seen := map[int]int{}
	for range 5000 {
		c := randomChannel(rng)
		checks(t, api.OK, c.p, c.depth, c.l...)
		seen[c.p.Kind]++
	}
	for kind := range 4 {
		if seen[kind] < 300 {
			t.Error("too few of the Kind", kind, seen[kind])
		}
	}
}

func TestNothingIsWrittenInto(t *testing.T) {
	rng := rand.New(rand.NewSource(2))
	for range 2000 {
		c := randomChannel(rng)
		planBefore := cloned(c.p)
		all := append(slices.Clone(c.l), 7, 7, 7)
		before := slices.Clone(all)
		l := all[:len(c.l)]
		if e := subframe.Check(c.p, c.depth, l...); e != api.OK {
			t.Fatal(c, int(e))
		}
		if e := subframe.Write(bits.NewWriter(), c.p, c.depth, l...); e != api.OK {
			t.Fatal(c, int(e))
		}
		if _, e := subframe.Best(c.depth, l...); e != api.OK {
			t.Fatal(c, int(e))
		}
		if !same(c.p, planBefore) || !slices.Equal(all, before) {
			t.Fatal("written into", c, all, before)
		}
	}
}
