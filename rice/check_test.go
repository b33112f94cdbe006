package rice_test

import (
	"math"
	"slices"
	"testing"

	"jetsam/api"
	"jetsam/rice"
)

// P5.1.

func TestChecksAPlan(t *testing.T) {
	for i, c := range []struct {
		p           rice.Plan
		block, skip int
		e           api.Errno
	}{
		// What may be.
		{planOf(0, coded(0)), 1, 0, api.OK},
		{planOf(0, coded(14)), 65535, 0, api.OK},
		{planOf(1, coded(30)), 65535, 32, api.OK},
		{planOf(1, raw(0)), 33, 32, api.OK},
		{planOf(0, raw(31)), 2, 1, api.OK},
		{planOf(1, coded(14), raw(31), coded(0), raw(0)), 12, 2, api.OK},
		{planOf(0, many(1<<15, coded(3))...), 32768, 0, api.OK},
		{planOf(1, many(1<<10, raw(7))...), 33 << 10, 32, api.OK},

		// A block, and a skip.
		{planOf(0, coded(0)), 0, 0, api.ErrArg},
		{planOf(0, coded(0)), -1, 0, api.ErrArg},
		{planOf(0, coded(0)), math.MinInt, 0, api.ErrArg},
		{planOf(0, coded(0)), 65536, 0, api.ErrArg},
		{planOf(0, coded(0)), math.MaxInt, 0, api.ErrArg},
		{planOf(0, coded(0)), 40, -1, api.ErrArg},
		{planOf(0, coded(0)), 40, 33, api.ErrArg},
		{planOf(0, coded(0)), 40, math.MinInt, api.ErrArg},
		{planOf(0, coded(0)), 40, math.MaxInt, api.ErrArg},

		// A Method, and an Order.
		{planOf(0, coded(0)), 40, 32, api.OK},
		{rice.Plan{Method: -1, Params: []int{0}, Bits: []int{0}}, 4, 0, api.ErrRange},
		{rice.Plan{Method: 2, Params: []int{0}, Bits: []int{0}}, 4, 0, api.ErrRange},
		{rice.Plan{Method: math.MaxInt, Params: []int{0}, Bits: []int{0}}, 4, 0, api.ErrRange},
		{rice.Plan{Order: -1, Params: []int{0}, Bits: []int{0}}, 4, 0, api.ErrRange},
		{rice.Plan{Order: 16, Params: make([]int, 1<<16), Bits: make([]int, 1<<16)}, 65535, 0, api.ErrRange},
		{rice.Plan{Order: 64, Params: []int{0}, Bits: []int{0}}, 4, 0, api.ErrRange},
		{rice.Plan{Order: math.MinInt, Params: []int{0}, Bits: []int{0}}, 4, 0, api.ErrRange},
		{rice.Plan{Order: math.MaxInt, Params: []int{0}, Bits: []int{0}}, 4, 0, api.ErrRange},

		// What does not part a block, and what is no greater than skip.
		{planOf(0, coded(0), coded(0)), 3, 0, api.ErrForm},
		{planOf(0, coded(0), coded(0)), 65535, 0, api.ErrForm},
		{planOf(0, many(4, coded(0))...), 6, 0, api.ErrForm},
		{planOf(0, many(1<<15, coded(0))...), 16384, 0, api.ErrForm},
		{planOf(0, many(1<<15, coded(0))...), 32768, 1, api.ErrForm},
		{planOf(0, coded(0)), 1, 1, api.ErrForm},
		{planOf(0, coded(0)), 32, 32, api.ErrForm},
		{planOf(0, coded(0)), 31, 32, api.ErrForm},
		{planOf(0, coded(0), coded(0)), 6, 3, api.ErrForm},
		{planOf(0, coded(0), coded(0)), 6, 2, api.OK},

		// Too few, or too many.
		{rice.Plan{Params: nil, Bits: []int{0}}, 4, 0, api.ErrArg},
		{rice.Plan{Params: []int{0}, Bits: nil}, 4, 0, api.ErrArg},
		{rice.Plan{Params: nil, Bits: nil}, 4, 0, api.ErrArg},
		{rice.Plan{Params: []int{0, 0}, Bits: []int{0}}, 4, 0, api.ErrArg},
		{rice.Plan{Params: []int{0}, Bits: []int{0, 0}}, 4, 0, api.ErrArg},
		{rice.Plan{Order: 1, Params: []int{0}, Bits: []int{0}}, 4, 0, api.ErrArg},
		{rice.Plan{Order: 1, Params: []int{0, 0, 0, 0}, Bits: []int{0, 0, 0, 0}}, 4, 0, api.ErrArg},

		// Parts.
		{planOf(0, coded(15)), 4, 0, api.ErrRange},
		{planOf(0, coded(30)), 4, 0, api.ErrRange},
		{planOf(1, coded(15)), 4, 0, api.OK},
		{planOf(1, coded(31)), 4, 0, api.ErrRange},
		{planOf(0, coded(-2)), 4, 0, api.ErrRange},
		{planOf(0, coded(math.MinInt)), 4, 0, api.ErrRange},
		{planOf(1, coded(math.MaxInt)), 4, 0, api.ErrRange},
		{planOf(0, part{0, 1}), 4, 0, api.ErrRange},
		{planOf(1, part{5, -1}), 4, 0, api.ErrRange},
		{planOf(0, raw(32)), 4, 0, api.ErrRange},
		{planOf(0, raw(-1)), 4, 0, api.ErrRange},
		{planOf(1, raw(math.MaxInt)), 4, 0, api.ErrRange},
		{planOf(0, coded(1), coded(2), coded(3), coded(15)), 4, 0, api.ErrRange},
		{planOf(0, coded(1), raw(2), part{3, 3}, coded(4)), 4, 0, api.ErrRange},

		// Which one comes first.
		{rice.Plan{Method: 2, Order: 16}, 0, 0, api.ErrArg},
		{rice.Plan{Method: 2, Order: 16}, 4, 33, api.ErrArg},
		{rice.Plan{Method: 2, Order: 1}, 3, 0, api.ErrRange},
		{rice.Plan{Order: 16}, 3, 3, api.ErrRange},
		{rice.Plan{Order: 1}, 3, 0, api.ErrForm},
		{rice.Plan{Order: 0}, 3, 3, api.ErrForm},
		{planOf(0, coded(15), coded(15)), 3, 0, api.ErrForm},
		{rice.Plan{Params: []int{15}}, 4, 0, api.ErrArg},
		{rice.Plan{Params: []int{15, 15}, Bits: []int{1, 1}}, 4, 0, api.ErrArg},
	} {
		before := cloned(c.p)
		if e := rice.Check(c.p, c.block, c.skip); e != c.e {
			t.Errorf("%d: error %d, not %d", i, int(e), int(c.e))
		}
		if !same(c.p, before) {
			t.Error(i, "the plan was written into")
		}
	}
}

func TestChecksEachPartOfBothMethods(t *testing.T) {
	for method := range 2 {
		right := allParts(method)
		for param := -3; param <= 33; param++ {
			for b := -2; b <= 34; b++ {
				want := api.ErrRange
				if slices.Contains(right, part{param, b}) {
					want = api.OK
				}
				if e := rice.Check(planOf(method, coded(1), part{param, b}), 8, 1); e != want {
					t.Fatal(method, param, b, int(e))
				}
			}
		}
	}
}

func TestChecksEachOrderOfSmallBlocks(t *testing.T) {
	for block := 1; block <= 160; block++ {
		for order := range 10 {
			for skip := 0; skip <= 32; skip++ {
				want := api.OK
				size := block / (1 << order)
				if size*(1<<order) != block || size <= skip {
					want = api.ErrForm
				}
				if e := rice.Check(planOf(1, many(1<<order, coded(2))...), block, skip); e != want {
					t.Fatal(block, order, skip, int(e))
				}
			}
		}
	}
}
