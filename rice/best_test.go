package rice_test

import (
	"math"
	"math/rand"
	"slices"
	"testing"

	"jetsam/api"
	"jetsam/rice"
)

// P5.4.

// bestPart is, of all parts there may be, the one by which residuals are written in the fewest bits, or in the rank of
// several such the first one; and how many bits that is.
func bestPart(method int, l []int) (best part, size int, found bool) {
	for _, o := range allParts(method) {
		n, may := partSize(method, o, l)
		if !may {
			continue
		}
		if !found || n < size || n == size && o.rank() < best.rank() {
			best, size, found = o, n, true
		}
	}
	return best, size, found
}

// partSize is how many bits a part is written in, residual by residual.
func partSize(method int, o part, l []int) (size int, may bool) {
	size = len(rawCode[method])
	if o.param == rice.Raw {
		size += 5
	}
	for _, x := range l {
		n := 2 * x
		if x < 0 {
			n = -2*x - 1
		}
		high := n / (1 << max(o.param, 0))
		switch {
		case o.param != rice.Raw && high > 65536:
			return 0, false
		case o.param != rice.Raw:
			size += high + 1 + o.param
		case o.bits == 0 && x != 0:
			return 0, false
		case o.bits > 0 && (x >= 1<<o.bits/2 || x < -(1<<o.bits)/2):
			return 0, false
		default:
			size += o.bits
		}
	}
	return size, true
}

// bestOf is what Best has to answer of what may be, and its Size.
func bestOf(order, skip int, l []int) (best rice.Plan, least int) {
	for method := range 2 {
	orders:
		for o := range order + 1 {
			block := len(l) + skip
			if block%(1<<o) != 0 || block>>o <= skip {
				continue
			}
			size := 6
			var all []part
			for _, own := range parted(o, skip, l) {
				c, n, found := bestPart(method, own)
				if !found {
					continue orders
				}
				all = append(all, c)
				size += n
			}
			if best.Params == nil || size < least {
				best, least = planOf(method, all...), size
			}
		}
	}
	return best, least
}

// finds tells that Best answers what it has to.
func finds(t *testing.T, order, skip int, l []int) rice.Plan {
	t.Helper()
	p, e := rice.Best(order, skip, l...)
	want, least := bestOf(order, skip, l)
	if e != api.OK || !same(p, want) {
		t.Fatalf("order %d, skip %d, %d residuals (%.20v): %.60v, error %d, not %.60v", order, skip, len(l), l, p, int(e), want)
	}
	if n, e := rice.Size(p, skip, l...); n != least || e != api.OK {
		t.Fatal(n, int(e), least)
	}
	return p
}

// refusesBest tells that Best answers an error, and nothing else.
func refusesBest(t *testing.T, e api.Errno, order, skip int, l ...int) {
	t.Helper()
	if p, f := rice.Best(order, skip, l...); !same(p, rice.Plan{}) || f != e {
		t.Errorf("order %d, skip %d, %d residuals: %v, error %d, not %d", order, skip, len(l), p, int(f), int(e))
	}
}

func TestBestOfWrongInputs(t *testing.T) {
	for _, order := range []int{-1, 16, 17, 64, math.MinInt, math.MaxInt} {
		// Ahead of all other errors.
		refusesBest(t, api.ErrRange, order, 0, 1)
		refusesBest(t, api.ErrRange, order, 33, 1)
		refusesBest(t, api.ErrRange, order, 0)
		refusesBest(t, api.ErrRange, order, 5)
	}
	refusesBest(t, api.ErrArg, 0, 0)
	refusesBest(t, api.ErrArg, 15, 0)
	refusesBest(t, api.ErrArg, 0, -1)
	refusesBest(t, api.ErrArg, 0, -1, 1, 2, 3)
	refusesBest(t, api.ErrArg, 0, 33, 1, 2, 3)
	refusesBest(t, api.ErrArg, 0, math.MinInt, 1)
	refusesBest(t, api.ErrArg, 0, math.MaxInt, 1)
	refusesBest(t, api.ErrArg, 0, 0, make([]int, 65536)...)
	refusesBest(t, api.ErrArg, 0, 32, make([]int, 65504)...)
	refusesBest(t, api.ErrArg, 0, 33, 1<<31)
	for skip := 1; skip <= 32; skip++ {
		refusesBest(t, api.ErrForm, 0, skip)
		refusesBest(t, api.ErrForm, 15, skip)
	}
	for _, x := range []int{1 << 31, -1 << 31, 1<<31 + 1, -1<<31 - 1, math.MaxInt, math.MinInt} {
		refusesBest(t, api.ErrRange, 0, 0, x)
		refusesBest(t, api.ErrRange, 3, 2, 0, 0, 0, 0, 0, x)
		refusesBest(t, api.ErrRange, 3, 2, x, 0, 0, 0, 0, 0)
	}
}

func TestBestByHand(t *testing.T) {
	zeros := make([]int, 12)
	for _, c := range []struct {
		order, skip int
		l           []int
		want        rice.Plan
	}{
		{0, 0, []int{0}, planOf(0, coded(0))},
		// Five residuals of 0 cost as much with the parameter 0 as Raw, which is above all others; six cost more.
		{0, 0, zeros[:5], planOf(0, coded(0))},
		{0, 0, zeros[:6], planOf(0, raw(0))},
		{0, 5, zeros[:5], planOf(0, coded(0))},
		// An Order that is greater is taken only if it costs less.
		{15, 0, zeros, planOf(0, raw(0))},
		{15, 0, []int{0, 0, 0, 0, 99, -99, 98, -98}, planOf(0, coded(0), coded(7))},
		{0, 0, []int{0, 0, 0, 0, 99, -99, 98, -98}, planOf(0, coded(6))},
		// The parameters 0 and 1 cost the same: the less one.
		{0, 0, []int{-1}, planOf(0, coded(0))},
		{0, 0, []int{-1, 1, 0}, planOf(0, coded(0))},
		// What only the Method 1 writes, and what it writes in fewer bits.
		{0, 0, []int{1 << 30}, planOf(1, coded(30))},
		{0, 0, []int{-1<<30 - 1}, planOf(1, coded(30))},
		{0, 0, []int{1<<31 - 1, 1 - 1<<31}, planOf(1, coded(30))},
		{0, 0, []int{-1 << 20}, planOf(1, coded(20))},
		{0, 0, []int{1<<30 - 1, -1 << 30, 1<<30 - 1}, planOf(1, coded(30))},
		// Both Methods cost the same: the less one. A Raw part has the fewest Bits.
		{0, 0, []int{1<<30 - 1, -1 << 30, 1<<30 - 1, -1 << 30}, planOf(0, raw(31))},
		{0, 0, []int{-1 << 20, -1 << 20, -1 << 20, 1<<20 - 1}, planOf(0, raw(21))},
		{0, 0, []int{1 << 20, 1 << 20, 1 << 20, 1 << 20}, planOf(0, raw(22))},
		{0, 0, []int{1 << 20, 1 << 20, 1 << 20, 1 << 20, 1 << 20}, planOf(0, raw(22))},
	} {
		want, _ := bestOf(c.order, c.skip, c.l)
		if !same(want, c.want) {
			t.Errorf("the texts say %v of %v, not %v", want, c.l, c.want)
		}
		if p, e := rice.Best(c.order, c.skip, c.l...); !same(p, c.want) || e != api.OK {
			t.Errorf("%v: %v, error %d, not %v", c.l, p, int(e), c.want)
		}
	}
}

func TestBestOfTwoParts(t *testing.T) {
	// All plans of no more than two parts, one by one, in the order in which the chapter takes them.
	rng := rand.New(rand.NewSource(8))
	for range 40 {
		about := rng.Intn(9)
		if rng.Intn(3) == 0 {
			about = rng.Intn(32)
		}
		skip := rng.Intn(3)
		l := randomResiduals(rng, 2*(skip+1+rng.Intn(4))-skip, about)
		var best rice.Plan
		least := math.MaxInt
		for method := range 2 {
			all := allParts(method)
			slices.SortFunc(all, func(a, b part) int { return a.rank() - b.rank() })
			consider := func(p rice.Plan) {
				if n, e := rice.Size(p, skip, l...); e == api.OK && n < least {
					best, least = p, n
				}
			}
			for _, a := range all {
				consider(planOf(method, a))
			}
			for _, a := range all {
				for _, b := range all {
					consider(planOf(method, a, b))
				}
			}
		}
		if p, e := rice.Best(1, skip, l...); !same(p, best) || e != api.OK {
			t.Fatalf("%v, skip %d: %v, error %d, not %v", l, skip, p, int(e), best)
		}
	}
}

func TestBestOfSmallBlocks(t *testing.T) {
	// All residuals from -2 to 2, up to five of them.
	for size := 1; size <= 5; size++ {
		l := make([]int, size)
		total := 1
		for range size {
			total *= 5
		}
		for n := range total {
			for i := range l {
				l[i] = n%5 - 2
				n /= 5
			}
			for skip := range 3 {
				finds(t, 2, skip, l)
			}
		}
	}
}

func TestBestOfRandomBlocks(t *testing.T) {
	rng := rand.New(rand.NewSource(9))
	var methods [2]int
	var orders [5]int
	raws := 0
	for range 6000 {
		block, order, skip := randomBlock(rng, 4)
		l := randomResiduals(rng, block-skip, rng.Intn(10))
		// Some parts of it are much greater, or noughts.
		for _, own := range parted(rng.Intn(order+1), skip, l) {
			about := 0
			switch rng.Intn(3) {
			case 0:
				about = rng.Intn(20)
			case 1:
				about = rng.Intn(32)
			default:
				continue
			}
			from := rng.Intn(len(l))
			copy(l[from:min(len(l), from+len(own))], randomResiduals(rng, len(own), about))
		}
		p := finds(t, rng.Intn(5), skip, l)
		methods[p.Method]++
		orders[p.Order]++
		if slices.Contains(p.Params, rice.Raw) {
			raws++
		}
	}
	if min(methods[0], methods[1], orders[0], orders[1], orders[2], orders[3], raws) < 50 {
		t.Error("too few of a kind:", methods, orders, raws)
	}
}

func TestBestOfOneResidual(t *testing.T) {
	for b := range 32 {
		for _, v := range []int{1<<b - 2, 1<<b - 1, 1 << b, 1<<b + 1} {
			for _, x := range []int{v, -v, -v - 1} {
				if x > -1<<31 && x < 1<<31 {
					finds(t, 15, 0, []int{x})
					finds(t, 0, 32, []int{x})
				}
			}
		}
	}
}

func TestBestWhereUnaryNumbersEnd(t *testing.T) {
	// One great residual among many noughts: the cheapest parameters are those by which it may not be written.
	for _, x := range []int{32768, -32768, 32769, -32769, 1 << 16, 1<<31 - 1} {
		l := make([]int, 40000)
		l[777] = x
		finds(t, 0, 0, l)
		finds(t, 2, 1, l[:39999])
	}
}

func TestBestOfTheGreatestBlocks(t *testing.T) {
	rng := rand.New(rand.NewSource(10))
	l := randomResiduals(rng, 65535, 10)
	if p := finds(t, 15, 0, l); p.Order != 0 {
		t.Error(p.Order)
	}
	finds(t, 15, 32, l[:65535-32])
	// As many parts as may be: one sample in each, and its bits are worth it.
	l = make([]int, 1<<15)
	for i := range l {
		if i%2 == 1 {
			l[i] = -1 << 13
		}
	}
	for order := 13; order <= 15; order++ {
		if p := finds(t, order, 0, l); p.Order != 0 && p.Order != order {
			t.Error(order, p.Order)
		}
	}
	if p := finds(t, 15, 0, l); p.Order != 15 {
		t.Error(p.Order)
	}
	// Where skip is in the way, fewer.
	l = randomResiduals(rng, 1<<15-7, 3)
	finds(t, 15, 7, l)
}

func TestBestDoesNotWriteAndAnswersItsOwn(t *testing.T) {
	rng := rand.New(rand.NewSource(11))
	for range 200 {
		block, _, skip := randomBlock(rng, 3)
		all := randomResiduals(rng, block+6, 9)
		before := slices.Clone(all)
		l := all[: block-skip : block+3]
		p, _ := rice.Best(3, skip, l...)
		q, _ := rice.Best(3, skip, l...)
		if !same(p, q) || !slices.Equal(all, before) {
			t.Fatal(p, q, all, before)
		}
		wide := append(p.Params, 77, 77, 77, 77)
		deep := append(p.Bits, 88, 88, 88, 88)
		if !same(p, q) || wide[len(p.Params)] != 77 || deep[len(p.Bits)] != 88 {
			t.Fatal(p, q)
		}
		for i := range p.Params {
			p.Params[i], p.Bits[i] = 66, 66
		}
		if again, _ := rice.Best(3, skip, l...); !same(again, q) {
			t.Fatal(again, q)
		}
	}
}
