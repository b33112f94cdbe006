package predict_test

import (
	"math"
	"math/rand"
	"slices"
	"testing"

	"jetsam/api"
	"jetsam/predict"
)

// P6.2, Residual.

// refusesResidual tells that Residual answers an error, and nothing else.
func refusesResidual(t *testing.T, want api.Errno, p predict.Linear, l ...int) {
	t.Helper()
	if d, e := predict.Residual(p, l...); len(d) != 0 || e != want {
		t.Errorf("%v of %v: %v, error %d, not %d", p, l, d, int(e), int(want))
	}
}

func TestResidualByHand(t *testing.T) {
	for i, c := range []struct {
		p       predict.Linear
		l, want []int
	}{
		// The order 0 tells 0.
		{linear(1, 0), []int{5, -6, 0}, []int{5, -6, 0}},
		{linear(15, 15), []int{5, -6, 0}, []int{5, -6, 0}},
		{linear(1, 0), nil, nil},
		// The first coefficient is of the sample right ahead.
		{linear(8, 0, 10, 100), []int{1, 2, 0, 0}, []int{-120, -200}},
		{linear(8, 0, -10, 100), []int{1, 2, 0, 1}, []int{-80, -199}},
		{linear(5, 0, 1, 2, 3), []int{1, 10, 100, 0}, []int{-123}},
		// Rounded down: of both signs, at halves and quarters.
		{linear(3, 1, 1), []int{3, 0}, []int{-1}},
		{linear(3, 1, 1), []int{-3, 0}, []int{2}},
		{linear(3, 1, -1), []int{3, 0}, []int{2}},
		{linear(3, 1, -1), []int{1, 0}, []int{1}},
		{linear(3, 2, 3), []int{1, 0}, []int{0}},
		{linear(3, 2, 3), []int{-1, 0}, []int{1}},
		{linear(3, 2, -4), []int{1, 0}, []int{1}},
		{linear(1, 15, -1), []int{1, 0}, []int{1}},
		{linear(1, 15, -1), []int{32769, 0}, []int{2}},
		{linear(15, 15, 16383), []int{2, 0, -2, 5}, []int{0, -2, 6}},
		// It is the sum that is divided, not each product.
		{linear(3, 1, 1, 1), []int{1, 1, 0}, []int{-1}},
		{linear(3, 1, 1, 1), []int{1, -1, 0}, []int{0}},
		// As many samples as the order: no residual.
		{linear(3, 1, 3, -1), []int{7, -7}, nil},
		{linear(1, 0, make([]int, 32)...), make([]int, 32), nil},
		{linear(5, 1, 3, -1), []int{4, 6, 7, 7}, []int{0, 0}},
		{linear(1, 0, make([]int, 32)...), append(make([]int, 32), 9, -9), []int{9, -9}},
	} {
		d, e := predict.Residual(c.p, c.l...)
		if !slices.Equal(d, c.want) || e != api.OK {
			t.Error(i, d, int(e), c.want)
		}
		residual(t, c.p, c.l)
	}
}

func TestResidualLooksBackAsFarAsItsOrder(t *testing.T) {
	// One coefficient that is not 0: the sample so far back, and no other, is what is told.
	rng := rand.New(rand.NewSource(1))
	for order := 1; order <= 32; order++ {
		for which := range order {
			p := linear(2, 0, make([]int, order)...)
			p.Coefs[which] = -1
			l := randomSamples(rng, order+5, 20)
			d, e := predict.Residual(p, l...)
			for i, x := range d {
				if at := order + i; x != l[at]+l[at-1-which] {
					t.Fatal(order, which, i, x)
				}
			}
			if len(d) != 5 || e != api.OK {
				t.Fatal(order, which, len(d), int(e))
			}
		}
	}
}

func TestResidualAtTheBounds(t *testing.T) {
	for _, a := range []int{least, most} {
		for _, b := range []int{least, most} {
			residual(t, linear(1, 0), []int{a, b})
			residual(t, linear(15, 0, -1<<14), []int{a, b})
			residual(t, linear(15, 15, 1<<14-1), []int{a, b})
			for _, c := range []int{-1 << 14, 1<<14 - 1, 1} {
				p := linear(15, 0, slices.Repeat([]int{c}, 32)...)
				residual(t, p, append(slices.Repeat([]int{a}, 32), b, a, b))
				p.Shift = 15
				residual(t, p, append(slices.Repeat([]int{a}, 32), b, a, b))
			}
		}
	}
	// The greatest sum there may be, told by hand: 2^5 coefficients of - 2^14, of samples of - 2^32.
	p := linear(15, 0, slices.Repeat([]int{-1 << 14}, 32)...)
	d, e := predict.Residual(p, slices.Repeat([]int{least}, 33)...)
	if want := []int{least - 1<<51}; !slices.Equal(d, want) || e != api.OK {
		t.Error(d, int(e), want)
	}
}

func TestResidualOfTooFewSamples(t *testing.T) {
	for order := 1; order <= 32; order++ {
		p := linear(3, 0, make([]int, order)...)
		for n := range order {
			refusesResidual(t, api.ErrArg, p, make([]int, n)...)
		}
		if d, e := predict.Residual(p, make([]int, order)...); len(d) != 0 || e != api.OK {
			t.Error(order, d, int(e))
		}
		// Ahead of a sample that may not be; behind Check's.
		if order > 1 {
			refusesResidual(t, api.ErrArg, p, most+1)
		}
		p.Shift = 16
		refusesResidual(t, api.ErrRange, p, most+1)
		refusesResidual(t, api.ErrRange, p)
	}
}

func TestResidualOfSamplesThatMayNotBe(t *testing.T) {
	for _, x := range []int{most + 1, least - 1, 1 << 33, -1 << 33, math.MinInt, math.MaxInt} {
		for order := range 33 {
			p := linear(3, 2, make([]int, order)...)
			// Among the first ones, and behind them, at each place.
			for at := range order + 4 {
				l := make([]int, order+4)
				l[at] = x
				refusesResidual(t, api.ErrRange, p, l...)
				l[at] = max(min(x, most), least)
				residual(t, p, l)
			}
			// Where there are no residuals.
			if order > 0 {
				l := make([]int, order)
				l[order-1] = x
				refusesResidual(t, api.ErrRange, p, l...)
			}
		}
	}
}

func TestResidualOfRandomSamples(t *testing.T) {
	rng := rand.New(rand.NewSource(2))
	for range 8000 {
		order := rng.Intn(33)
		if rng.Intn(2) == 0 {
			order = rng.Intn(5)
		}
		p := randomLinear(rng, order)
		l := randomSamples(rng, max(0, order-1+rng.Intn(12)), rng.Intn(33))
		if len(l) > 0 && rng.Intn(20) == 0 {
			l[rng.Intn(len(l))] = []int{most + 1, least - 1, math.MaxInt, math.MinInt}[rng.Intn(4)]
		}
		residual(t, p, l)
	}
}

func TestResidualDoesNotWriteAndAnswersItsOwn(t *testing.T) {
	rng := rand.New(rand.NewSource(3))
	for range 500 {
		order := rng.Intn(6)
		p := randomLinear(rng, order+3)
		coefs := slices.Clone(p.Coefs)
		p.Coefs = p.Coefs[:order]
		all := randomSamples(rng, order+12, 32)
		before := slices.Clone(all)
		l := all[: order+5 : order+10]
		d, _ := predict.Residual(p, l...)
		other, _ := predict.Residual(p, l...)
		want := slices.Clone(d)
		wide := append(d, 7, 7, 7, 7)
		for i := range wide {
			wide[i] = 7
		}
		for i := range d {
			d[i] = 7
		}
		if !slices.Equal(all, before) || !slices.Equal(p.Coefs[:order+3], coefs) || !slices.Equal(other, want) {
			t.Fatal(p, all, before)
		}
	}
}
