package predict_test

import (
	"math/rand"
	"slices"
	"testing"

	"jetsam/api"
	"jetsam/predict"
)

// P6.4.

func TestRestoreOfResidualIsTheSamples(t *testing.T) {
	rng := rand.New(rand.NewSource(9))
	for range 6000 {
		order := rng.Intn(33)
		p := randomLinear(rng, order)
		if rng.Intn(3) == 0 {
			order = rng.Intn(5)
			p, _ = predict.Fixed(order)
		}
		l := randomSamples(rng, order+rng.Intn(30), rng.Intn(33))
		d, e := predict.Residual(p, l...)
		s, f := predict.Restore(p, l[:order], d...)
		if e != api.OK || f != api.OK || len(d) != len(l)-order || !slices.Equal(s, l) {
			t.Fatal(p, l, d, s, int(e), int(f))
		}
	}
}

func TestResidualOfRestoreIsTheResiduals(t *testing.T) {
	rng := rand.New(rand.NewSource(10))
	done := 0
	for range 20000 {
		order := rng.Intn(33)
		p := randomLinear(rng, order)
		if rng.Intn(3) == 0 {
			order = rng.Intn(5)
			p, _ = predict.Fixed(order)
		}
		first, d := randomSamples(rng, order, rng.Intn(33)), randomSamples(rng, rng.Intn(20), rng.Intn(36))
		l, e := predict.Restore(p, first, d...)
		if e != api.OK {
			continue
		}
		done++
		back, e := predict.Residual(p, l...)
		if e != api.OK || !slices.Equal(back, d) || !slices.Equal(l[:order], first) {
			t.Fatal(p, first, d, l, back, int(e))
		}
	}
	if done < 5000 {
		t.Error("too few were restored:", done)
	}
}

func TestBothOfAGreatBlock(t *testing.T) {
	rng := rand.New(rand.NewSource(11))
	for _, order := range []int{0, 1, 32} {
		p := randomLinear(rng, order)
		l := randomSamples(rng, 65535, 32)
		d, e := predict.Residual(p, l...)
		s, f := predict.Restore(p, l[:order], d...)
		if e != api.OK || f != api.OK || len(d) != 65535-order || !slices.Equal(s, l) {
			t.Error(order, len(d), len(s), int(e), int(f))
		}
	}
}

func TestResidualsOfAFixedOrderAreDifferences(t *testing.T) {
	rng := rand.New(rand.NewSource(12))
	for order := range 5 {
		p, _ := predict.Fixed(order)
		for range 1000 {
			l := randomSamples(rng, order+rng.Intn(20), rng.Intn(33))
			d, e := predict.Residual(p, l...)
			if want := differences(l, order); !slices.Equal(d, want) || e != api.OK {
				t.Fatal(order, l, d, want, int(e))
			}
		}
	}
}

func TestBestIsTheLeastOfOneSum(t *testing.T) {
	rng := rand.New(rand.NewSource(13))
	tied := 0
	for range 20000 {
		l := randomSamples(rng, 1+rng.Intn(9), rng.Intn(3))
		best := predict.Best(l...)
		for order := range min(len(l), 5) {
			p, _ := predict.Fixed(order)
			d, e := predict.Residual(p, l...)
			b, _ := predict.Fixed(best)
			c, f := predict.Residual(b, l...)
			if e != api.OK || f != api.OK {
				t.Fatal(l, order, best, int(e), int(f))
			}
			switch sumOf(d).Cmp(sumOf(c)) {
			case -1:
				t.Fatal(l, best, order)
			case 0:
				if order < best {
					t.Fatal(l, best, order)
				}
				if order > best {
					tied++
				}
			}
		}
	}
	if tied < 1000 {
		t.Error("too few of one sum:", tied)
	}
}
