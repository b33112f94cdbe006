package predict_test

import (
	"math"
	"slices"
	"testing"

	"jetsam/api"
	"jetsam/predict"
)

// P6.1.

// checks tells that Check answers an error, and that Residual and Restore do, ahead of their own.
func checks(t *testing.T, p predict.Linear, want api.Errno) {
	t.Helper()
	if e := predict.Check(p); e != want {
		t.Errorf("%v: error %d, not %d", p, int(e), int(want))
	}
	if want == api.OK {
		return
	}
	for _, l := range [][]int{nil, {1}, {1 << 32}, make([]int, 40)} {
		if d, e := predict.Residual(p, l...); len(d) != 0 || e != want {
			t.Errorf("%v: Residual %v, error %d, not %d", p, d, int(e), int(want))
		}
		for _, first := range [][]int{nil, make([]int, len(p.Coefs)), make([]int, len(p.Coefs)+1)} {
			if s, e := predict.Restore(p, first, l...); len(s) != 0 || e != want {
				t.Errorf("%v: Restore %v, error %d, not %d", p, s, int(e), int(want))
			}
		}
	}
}

func TestChecksPrecisionAndShift(t *testing.T) {
	numbers := []int{math.MinInt, -1 << 32, -64, -63, -1 << 8, 1 << 8, 63, 64, 65, 1 << 32, math.MaxInt}
	for n := -3; n <= 40; n++ {
		numbers = append(numbers, n)
	}
	for _, precision := range numbers {
		for _, shift := range numbers {
			want := api.ErrRange
			if precision >= 1 && precision <= 15 && shift >= 0 && shift <= 15 {
				want = api.OK
			}
			checks(t, linear(precision, shift), want)
			checks(t, linear(precision, shift, 0, 0), want)
		}
	}
	checks(t, predict.Linear{}, api.ErrRange)
}

func TestChecksCoefficients(t *testing.T) {
	for precision := 1; precision <= 15; precision++ {
		low, high := -1, 0
		for range precision - 1 {
			low, high = 2*low, 2*high+1
		}
		for _, c := range []int{low, high, low / 2, high / 2, 0, -1} {
			checks(t, linear(precision, 0, c), api.OK)
			checks(t, linear(precision, 15, 0, 0, c), api.OK)
			checks(t, linear(precision, 7, low, c, high), api.OK)
		}
		for _, c := range []int{low - 1, high + 1, 2 * low, low - 7, high + 7, 1 << 15, -1 << 16, 1 << 32, -1 << 32, math.MinInt, math.MaxInt} {
			if c >= low && c <= high {
				continue
			}
			checks(t, linear(precision, 0, c), api.ErrRange)
			checks(t, linear(precision, 15, 0, 0, c), api.ErrRange)
			checks(t, linear(precision, 7, c, 0, 0), api.ErrRange)
		}
	}
	// One that may be of a greater Precision.
	checks(t, linear(3, 0, 4), api.ErrRange)
	checks(t, linear(4, 0, 4), api.OK)
	checks(t, linear(3, 0, -4), api.OK)
	checks(t, linear(1, 0, 1), api.ErrRange)
}

func TestChecksHowManyCoefficients(t *testing.T) {
	for n := range 70 {
		want := api.OK
		if n > 32 {
			want = api.ErrRange
		}
		checks(t, linear(1, 0, make([]int, n)...), want)
		checks(t, linear(15, 15, slices.Repeat([]int{-1 << 14}, n)...), want)
	}
	last := make([]int, 32)
	last[31] = 8
	checks(t, linear(4, 0, last...), api.ErrRange)
	last[31] = -8
	checks(t, linear(4, 0, last...), api.OK)
}

func TestFixed(t *testing.T) {
	for order, want := range [][]int{{}, {1}, {2, -1}, {3, -3, 1}, {4, -6, 4, -1}} {
		p, e := predict.Fixed(order)
		if p.Precision != 4 || p.Shift != 0 || !slices.Equal(p.Coefs, want) || e != api.OK {
			t.Error(order, p, int(e))
		}
		if e := predict.Check(p); e != api.OK {
			t.Error(order, int(e))
		}
	}
}

func TestFixedOfWrongOrders(t *testing.T) {
	for _, order := range []int{-1, 5, -2, 6, 32, 33, 1 << 32, -1 << 32, math.MinInt, math.MaxInt} {
		p, e := predict.Fixed(order)
		if p.Precision != 0 || p.Shift != 0 || len(p.Coefs) != 0 || e != api.ErrRange {
			t.Error(order, p, int(e))
		}
	}
}

func TestFixedAnswersItsOwn(t *testing.T) {
	for order := range 5 {
		p, _ := predict.Fixed(order)
		before := slices.Clone(p.Coefs)
		wide := append(p.Coefs, 7, 7, 7)
		for i := range wide {
			wide[i] = 7
		}
		for i := range p.Coefs {
			p.Coefs[i] = 7
		}
		if again, e := predict.Fixed(order); !slices.Equal(again.Coefs, before) || e != api.OK {
			t.Error(order, again, int(e))
		}
	}
}
