package stereo_test

import (
	"math/big"
	"math/rand"
	"slices"
	"testing"

	"jetsam/api"
	"jetsam/stereo"
)

// P9.2; its errors are held beside Part's.

func TestJoinByHand(t *testing.T) {
	for _, c := range []struct {
		mode              int
		a, b, left, right []int
	}{
		{1, []int{5}, []int{2}, []int{5}, []int{2}},
		{8, []int{5}, []int{3}, []int{5}, []int{2}},
		{9, []int{3}, []int{2}, []int{5}, []int{2}},
		{10, []int{3}, []int{3}, []int{5}, []int{2}},
		// A side that is odd, even, 0, and less than nought; and a middle that is so.
		{10, []int{3}, []int{4}, []int{5}, []int{1}},
		{10, []int{3}, []int{0}, []int{3}, []int{3}},
		{10, []int{0}, []int{0}, []int{0}, []int{0}},
		{10, []int{3}, []int{-3}, []int{2}, []int{5}},
		{10, []int{3}, []int{-4}, []int{1}, []int{5}},
		{10, []int{-2}, []int{-7}, []int{-5}, []int{2}},
		{10, []int{-2}, []int{7}, []int{2}, []int{-5}},
		{10, []int{-1}, []int{-1}, []int{-1}, []int{0}},
		{10, []int{-1}, []int{1}, []int{0}, []int{-1}},
		{10, []int{-1}, []int{0}, []int{-1}, []int{-1}},
		{10, []int{0, -6}, []int{-1, 1}, []int{0, -5}, []int{1, -6}},
		// The edges.
		{1, []int{bound}, []int{-bound}, []int{bound}, []int{-bound}},
		{8, []int{bound, -bound}, []int{bound, -bound}, []int{bound, -bound}, []int{0, 0}},
		{9, []int{bound, -bound}, []int{-bound, bound}, []int{0, 0}, []int{-bound, bound}},
		{10, []int{0, 0}, []int{bound, -bound}, []int{bound / 2, -bound / 2}, []int{-bound / 2, bound / 2}},
		{10, []int{bound, -bound}, []int{0, 0}, []int{bound, -bound}, []int{bound, -bound}},
		{10, []int{bound - 1, -bound}, []int{1, -1}, []int{bound, -bound}, []int{bound - 1, 1 - bound}},
		{10, nil, nil, nil, nil},
	} {
		joins(t, c.mode, c.a, c.b, c.left, c.right)
	}
}

func TestJoinOfNoSamples(t *testing.T) {
	for _, mode := range modes {
		for _, l := range [][]int{nil, {}} {
			joins(t, mode, l, nil, nil, nil)
		}
	}
}

func TestJoinIsTheChannelsOfWhichItIsWritten(t *testing.T) {
	// All channels of small numbers: no two of them are written alike, and each is joined again.
	for _, mode := range modes {
		written := map[[2]int][2]int{}
		for left := -40; left <= 40; left++ {
			for right := -40; right <= 40; right++ {
				a, b, e := partOf(mode, []int{left}, []int{right})
				if e != api.OK {
					t.Fatal(mode, left, right, int(e))
				}
				key := [2]int{a[0], b[0]}
				if other, twice := written[key]; twice {
					t.Fatal(mode, left, right, other)
				}
				written[key] = [2]int{left, right}
				joins(t, mode, a, b, []int{left}, []int{right})
			}
		}
		// What is small is written of small channels: none of it is left out.
		for a := -13; a <= 13; a++ {
			for b := -13; b <= 13; b++ {
				if _, found := written[[2]int{a, b}]; !found {
					t.Fatal(mode, a, b)
				}
			}
		}
	}
}

func TestJoinOfRandomNumbers(t *testing.T) {
	rng := rand.New(rand.NewSource(3))
	for range 4000 {
		n := rng.Intn(30)
		a, b := randomChannel(rng, n, rng.Intn(41)), randomChannel(rng, n, rng.Intn(41))
		for _, mode := range modes {
			left, right, e := stereo.Join(mode, a, b)
			if len(left) != n || len(right) != n || e != api.OK {
				t.Fatal(mode, a, b, int(e))
			}
			for i := range left {
				solves(t, mode, a[i], b[i], left[i], right[i])
			}
		}
	}
}

// solves tells that two samples are those of which a and b is written, whether the samples may be or not.
func solves(t *testing.T, mode, a, b, left, right int) {
	t.Helper()
	side, middle := sideOf(left, right), middleOf(left, right)
	want := map[int][2]int{1: {left, right}, 8: {left, side}, 9: {side, right}, 10: {middle, side}}[mode]
	if want != [2]int{a, b} {
		t.Fatalf("mode %d of %d, %d: %d, %d, of which %v is written", mode, a, b, left, right, want)
	}
}

func TestJoinOfMidSideByTheChaptersWords(t *testing.T) {
	rng := rand.New(rand.NewSource(4))
	for range 4000 {
		middle, side := randomChannel(rng, 1, rng.Intn(41)), randomChannel(rng, 1, rng.Intn(41))
		twice := new(big.Int).Mul(large(2), large(middle[0]))
		// Mod, of a positive divisor, is 0 or 1.
		rest := new(big.Int).Mod(large(side[0]), large(2))
		left := new(big.Int).Add(twice, new(big.Int).Add(large(side[0]), rest))
		if left.Bit(0) != 0 {
			t.Fatal(middle, side, left)
		}
		left.Quo(left, large(2))
		right := new(big.Int).Sub(left, large(side[0]))
		joins(t, 10, middle, side, []int{int(left.Int64())}, []int{int(right.Int64())})
	}
}

// The numbers that are joined have to be such as may be; the channels are not held against that.
func TestJoinOfNumbersThatMayBeToChannelsThatMayNot(t *testing.T) {
	for _, c := range []struct{ mode, a, b, left, right int }{
		{8, bound, -bound, bound, 2 * bound},
		{8, -bound, bound, -bound, -2 * bound},
		{8, 1, -bound, 1, bound + 1},
		{8, -1, bound, -1, -bound - 1},
		{9, bound, bound, 2 * bound, bound},
		{9, -bound, -bound, -2 * bound, -bound},
		{9, bound, 1, bound + 1, 1},
		{9, -bound, -1, -bound - 1, -1},
		{10, bound, bound, bound + bound/2, bound / 2},
		{10, -bound, bound, -bound / 2, -bound - bound/2},
		{10, bound, 1, bound + 1, bound},
		{10, -bound, 2, 1 - bound, -bound - 1},
	} {
		for at := range 3 {
			a, b, left, right := make([]int, 3), make([]int, 3), make([]int, 3), make([]int, 3)
			a[at], b[at], left[at], right[at] = c.a, c.b, c.left, c.right
			joins(t, c.mode, a, b, left, right)
		}
		solves(t, c.mode, c.a, c.b, c.left, c.right)
	}
}

// A side that is too great to be joined is that of channels that may be: P9.2's error comes ahead of what follows.
func TestJoinOfASideThatIsTooGreat(t *testing.T) {
	for _, mode := range modes[1:] {
		for _, c := range [][2]int{{bound, -bound}, {-bound, bound}, {bound, -1}, {-1, bound}, {1, -bound}, {-bound, 1}} {
			a, b, e := parts(t, mode, c[:1], c[1:])
			if e != api.OK {
				t.Fatal(mode, c, int(e))
			}
			if l, r, e := stereo.Join(mode, a, b); len(l) != 0 || len(r) != 0 || e != api.ErrRange {
				t.Error(mode, c, l, r, int(e))
			}
			zero := []int{0}
			a, b = slices.Concat(zero, a, zero), slices.Concat(zero, b, zero)
			if l, r, e := stereo.Join(mode, a, b); len(l) != 0 || len(r) != 0 || e != api.ErrRange {
				t.Error(mode, c, l, r, int(e))
			}
		}
	}
}
