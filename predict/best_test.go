package predict_test

import (
	"math"
	"math/rand"
	"slices"
	"testing"

	"jetsam/predict"
)

// P6.3.

// finds tells that Best answers what it has to.
func finds(t *testing.T, l []int) int {
	t.Helper()
	n, want := predict.Best(l...), bestOf(l)
	if n != want {
		t.Fatalf("%.40v: %d, not %d", l, n, want)
	}
	return n
}

func TestBestByHand(t *testing.T) {
	for i, c := range []struct {
		l    []int
		want int
	}{
		{nil, 0},
		{[]int{0}, 0},
		{[]int{9}, 0},
		{[]int{-9}, 0},
		{[]int{9, 9}, 1},
		{[]int{-9, -9}, 1},
		{[]int{3, 5, 9, 15}, 3},
		// One residual less is less in sum: of as many the order 0 would be as good.
		{[]int{1, 2}, 1},
		{[]int{2, 1}, 1},
		{[]int{1, -1}, 0},
		{[]int{-1, 1}, 0},
		{[]int{1, 3}, 1},
		// Of one sum the least order.
		{[]int{0, 0}, 0},
		{[]int{0, 0, 0, 0, 0, 0, 0}, 0},
		{[]int{0, 1}, 0},
		{[]int{0, -1}, 0},
		{[]int{5, 5, 5, 5, 5, 5}, 1},
		{[]int{1, 2, 3, 4, 5, 6}, 2},
		{[]int{0, 1, 4, 9, 16, 25}, 3},
		{[]int{0, 1, 8, 27, 64, 125}, 4},
		{[]int{0, 1, 16, 81, 256, 625, 1296}, 4},
		// Signs do not take away from a sum.
		{[]int{1, -1, 1, -1}, 0},
		{[]int{100, -100, 100, -100, 100}, 0},
		{[]int{-1, -1, -1, 1, 1, 1}, 1},
		// Below how many samples there are: the order that would be less in sum has none.
		{[]int{7, 7}, 1},
		{[]int{7, 8}, 1},
		{[]int{7, 8, 9}, 2},
		{[]int{0, 1, 4, 9}, 3},
		{[]int{0, 1, 8, 27}, 3},
	} {
		if n := predict.Best(c.l...); n != c.want {
			t.Error(i, c.l, n, c.want)
		}
		finds(t, c.l)
	}
}

func TestBestOfSmallSamples(t *testing.T) {
	// All samples from -2 to 2, up to seven of them.
	var orders [5]int
	for size := range 8 {
		l := make([]int, size)
		total := 1
		for range size {
			total *= 5
		}
		for n := range total {
			for i := range l {
				l[i] = n%5 - 2
				n /= 5
			}
			orders[finds(t, l)]++
		}
	}
	if slices.Min(orders[:]) < 10 {
		t.Error("too few of an order:", orders)
	}
}

func TestBestOfRandomSamples(t *testing.T) {
	rng := rand.New(rand.NewSource(6))
	var orders [5]int
	for range 4000 {
		// What differs so often by a little.
		l := randomSamples(rng, 1+rng.Intn(40), rng.Intn(12))
		for range rng.Intn(5) {
			for i := 1; i < len(l); i++ {
				l[i] += l[i-1]
			}
		}
		for i, x := range l {
			l[i] = max(min(x, most), least)
		}
		orders[finds(t, l)]++
	}
	if slices.Min(orders[:]) < 100 {
		t.Error("too few of an order:", orders)
	}
}

func TestBestOfGreatSamples(t *testing.T) {
	rng := rand.New(rand.NewSource(7))
	for _, n := range []int{1, 2, 3, 4, 5, 6, 100, 65535} {
		finds(t, randomSamples(rng, n, 32))
		finds(t, slices.Repeat([]int{least}, n))
		finds(t, slices.Repeat([]int{most}, n))
		l := slices.Repeat([]int{least, most}, n)
		finds(t, l[:n])
		finds(t, l)
	}
}

func TestBestOfWrongSamples(t *testing.T) {
	for _, x := range []int{most + 1, least - 1, math.MaxInt, math.MinInt} {
		if n := predict.Best(x); n != 0 {
			t.Error(x, n)
		}
		for at := range 8 {
			// Without it the order would be 2, or 1.
			l := []int{1, 2, 3, 4, 5, 6, 7, 8}
			l[at] = x
			flat := slices.Repeat([]int{x / 2}, 8)
			flat[at] = x
			if n, m := predict.Best(l...), predict.Best(flat...); n != 0 || m != 0 {
				t.Error(x, at, n, m)
			}
		}
		if n := predict.Best(x, x, x, x, x, x); n != 0 {
			t.Error(x, n)
		}
	}
	// The bounds may be.
	if n, m := predict.Best(most, most, most), predict.Best(least, least, least); n != 1 || m != 1 {
		t.Error(n, m)
	}
}

func TestBestDoesNotWrite(t *testing.T) {
	rng := rand.New(rand.NewSource(8))
	for range 200 {
		all := randomSamples(rng, 20, 32)
		before := slices.Clone(all)
		l := all[:rng.Intn(12):16]
		if n := predict.Best(l...); n != predict.Best(l...) || !slices.Equal(all, before) {
			t.Fatal(n, all, before)
		}
	}
}
