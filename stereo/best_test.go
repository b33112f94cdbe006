package stereo_test

import (
	"math/big"
	"math/rand"
	"slices"
	"testing"

	"jetsam/api"
	"jetsam/stereo"
)

// P9.3.

// magnitudeOf is the sum of two lists without their signs.
func magnitudeOf(a, b []int) *big.Int {
	sum := new(big.Int)
	for _, x := range slices.Concat(a, b) {
		sum.Add(sum, new(big.Int).Abs(large(x)))
	}
	return sum
}

// sums are those of what is written of two channels, mode by mode.
func sums(left, right []int) []*big.Int {
	var l []*big.Int
	for _, mode := range modes {
		a, b, _ := partOf(mode, left, right)
		l = append(l, magnitudeOf(a, b))
	}
	return l
}

// bestOf is what Best has to answer of channels that may be, and how many modes are as good.
func bestOf(left, right []int) (best, many int) {
	l := sums(left, right)
	least := slices.MinFunc(l, (*big.Int).Cmp)
	for i, sum := range l {
		if sum.Cmp(least) != 0 {
			continue
		}
		if many == 0 {
			best = modes[i]
		}
		many++
	}
	return best, many
}

// finds tells that Best answers what it has to, and what that is, and how many modes are as good.
func finds(t *testing.T, left, right []int) (mode, many int) {
	t.Helper()
	want, many := bestOf(left, right)
	mode, e := stereo.Best(left, right)
	if mode != want || e != api.OK {
		t.Fatalf("%.40v, %.40v: %d, error %d, not %d", left, right, mode, int(e), want)
	}
	return mode, many
}

// refusesBest tells that Best answers an error alone.
func refusesBest(t *testing.T, want api.Errno, left, right []int) {
	t.Helper()
	if mode, e := stereo.Best(left, right); mode != 0 || e != want {
		t.Errorf("%v, %v: %d, error %d, not %d", left, right, mode, int(e), int(want))
	}
}

func TestBestByHand(t *testing.T) {
	for i, c := range []struct {
		left, right []int
		want        int
	}{
		{nil, nil, 1},
		{[]int{}, nil, 1},
		{[]int{0}, []int{0}, 1},
		{[]int{9}, []int{0}, 1},
		{[]int{0}, []int{9}, 1},
		// 5 and 3, 3 and 2, 3 and 3, beside 5 and 2.
		{[]int{5}, []int{2}, 9},
		{[]int{-5}, []int{-2}, 9},
		{[]int{2}, []int{5}, 8},
		{[]int{-2}, []int{-5}, 8},
		// The same samples: the side is 0 in all modes but 1, and the least of these is taken.
		{[]int{9}, []int{9}, 8},
		{[]int{-9, 7}, []int{-9, 7}, 8},
		// Opposite ones: 18 as they are, 27 with one of them, and 18 with a middle of 0.
		{[]int{9}, []int{-9}, 1},
		{[]int{-9}, []int{9}, 1},
		{[]int{9, 9}, []int{8, 10}, 10},
		{[]int{9}, []int{8}, 9},
		{[]int{8}, []int{9}, 8},
		// The right one and the middle are as good: 1 + 8 of each.
		{[]int{9, 0}, []int{8, 0}, 9},
		// The middle is rounded down: -9 is greater than -8.
		{[]int{-8}, []int{-9}, 8},
		{[]int{-9, -9}, []int{-8, -10}, 8},
		{[]int{-9, -8, -9, -10}, []int{-8, -9, -10, -9}, 8},
		{[]int{-9, -9, -9}, []int{-7, -11, -9}, 8},
		{[]int{9, -9, 9, 9}, []int{7, -11, 11, 11}, 8},
		{[]int{9, 9, -9, -9}, []int{7, 11, -7, -11}, 8},
		{[]int{9, 10, 9, 10}, []int{10, 9, 10, 9}, 10},
		// Signs do not take away from a sum.
		{[]int{9, -9}, []int{9, -9}, 8},
		{[]int{9, 1}, []int{0, -100}, 1},
		{[]int{bound}, []int{bound}, 8},
		{[]int{-bound}, []int{-bound}, 8},
		{[]int{bound}, []int{-bound}, 1},
		{[]int{-bound}, []int{bound}, 1},
		{[]int{bound}, []int{bound - 1}, 9},
		{[]int{bound - 1}, []int{bound}, 8},
	} {
		if mode, e := stereo.Best(c.left, c.right); mode != c.want || e != api.OK {
			t.Error(i, c.left, c.right, mode, int(e), c.want)
		}
		finds(t, c.left, c.right)
	}
}

func TestBestOfSmallChannels(t *testing.T) {
	// All channels of two samples from -4 to 4.
	found := map[int]int{}
	ties := map[int]int{}
	for n := range 9 * 9 * 9 * 9 {
		left, right := []int{n%9 - 4, n/9%9 - 4}, []int{n/81%9 - 4, n/729 - 4}
		mode, many := finds(t, left, right)
		found[mode]++
		if many > 1 {
			ties[mode]++
		}
	}
	for _, mode := range modes {
		if found[mode] < 50 {
			t.Error("too few of a mode", mode, found)
		}
	}
	for _, mode := range modes[:3] {
		if ties[mode] < 50 {
			t.Error("too few that are as good", mode, ties)
		}
	}
}

func TestBestOfRandomChannels(t *testing.T) {
	rng := rand.New(rand.NewSource(5))
	found := map[int]int{}
	for range 6000 {
		n, about := rng.Intn(40), rng.Intn(41)
		left := randomChannel(rng, n, about)
		right := near(rng, left, 1<<rng.Intn(about+1))
		if rng.Intn(2) == 0 {
			left, right = right, left
		}
		mode, _ := finds(t, left, right)
		found[mode]++
		right = randomChannel(rng, n, about)
		finds(t, left, right)
	}
	for _, mode := range modes {
		if found[mode] < 100 {
			t.Error("too few of a mode", mode, found)
		}
	}
}

func TestBestOfMoreThan64Bits(t *testing.T) {
	// The same samples: as they are, the sums are 2^63 and 2^64, and half of that with a side of 0.
	most := 1 << 23
	l := slices.Repeat([]int{bound}, most)
	for _, n := range []int{most / 2, most} {
		if mode, e := stereo.Best(l[:n], l[:n]); mode != 8 || e != api.OK {
			t.Error(n, mode, int(e))
		}
	}
	// Opposite ones: as they are, the sum is just below 2^64, and half as much more with one of them and the side, but
	// less in its last 64 bits.
	opposite := slices.Repeat([]int{-bound}, most)
	for _, n := range []int{most / 2, most - 1, most} {
		if mode, e := stereo.Best(l[:n], opposite[:n]); mode != 1 || e != api.OK {
			t.Error(n, mode, int(e))
		}
	}
}

func TestBestRefuses(t *testing.T) {
	for n := range 6 {
		for m := range 6 {
			if n == m {
				continue
			}
			refusesBest(t, api.ErrArg, make([]int, n), make([]int, m))
			// Ahead of numbers that may not be.
			for _, x := range wrongNumbers() {
				refusesBest(t, api.ErrArg, slices.Repeat([]int{x}, n), make([]int, m))
				refusesBest(t, api.ErrArg, make([]int, n), slices.Repeat([]int{x}, m))
			}
		}
	}
	for _, x := range wrongNumbers() {
		for n := 1; n < 6; n++ {
			for at := range n {
				wrong := slices.Repeat([]int{5}, n)
				wrong[at] = x
				refusesBest(t, api.ErrRange, wrong, make([]int, n))
				refusesBest(t, api.ErrRange, make([]int, n), wrong)
				refusesBest(t, api.ErrRange, wrong, wrong)
			}
		}
	}
}

func TestBestDoesNotWrite(t *testing.T) {
	rng := rand.New(rand.NewSource(6))
	for range 300 {
		all := randomChannel(rng, 30, 40)
		before := slices.Clone(all)
		at, n := rng.Intn(10), rng.Intn(10)
		left, right := all[:n:20], all[at:at+n]
		mode, e := stereo.Best(left, right)
		again, f := stereo.Best(left, right)
		if mode != again || e != api.OK || f != api.OK || !slices.Equal(all, before) {
			t.Fatal(mode, again, int(e), int(f), all, before)
		}
	}
}
