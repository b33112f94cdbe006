package stereo_test

import (
	"math/rand"
	"slices"
	"testing"

	"jetsam/api"
	"jetsam/stereo"
)

// P9.4.

func TestJoinOfPartIsTheChannels(t *testing.T) {
	rng := rand.New(rand.NewSource(7))
	for range 6000 {
		// Of numbers up to 2^39 there is no side that is too great to be joined.
		n, about := rng.Intn(40), rng.Intn(40)
		left, right := randomChannel(rng, n, about), randomChannel(rng, n, about)
		for _, mode := range modes {
			a, b, e := stereo.Part(mode, left, right)
			if len(a) != n || len(b) != n || e != api.OK {
				t.Fatal(mode, left, right, a, b, int(e))
			}
			joins(t, mode, a, b, left, right)
		}
	}
}

func TestJoinOfPartAtTheEdges(t *testing.T) {
	rng := rand.New(rand.NewSource(8))
	for range 2000 {
		// Numbers near one edge: the side is small.
		edge := []int{bound, -bound}[rng.Intn(2)]
		left := near(rng, slices.Repeat([]int{edge}, 1+rng.Intn(9)), 1<<rng.Intn(40))
		right := near(rng, slices.Repeat([]int{edge}, len(left)), 1<<rng.Intn(40))
		left[rng.Intn(len(left))], right[rng.Intn(len(left))] = edge, edge
		for _, mode := range modes {
			a, b, e := parts(t, mode, left, right)
			if e != api.OK {
				t.Fatal(mode, left, right, int(e))
			}
			joins(t, mode, a, b, left, right)
		}
	}
}

func TestJoinOfPartOfAGreatBlock(t *testing.T) {
	rng := rand.New(rand.NewSource(9))
	left, right := randomChannel(rng, 65535, 31), randomChannel(rng, 65535, 31)
	for _, mode := range modes {
		a, b, e := stereo.Part(mode, left, right)
		if e != api.OK {
			t.Fatal(mode, int(e))
		}
		joins(t, mode, a, b, left, right)
	}
}

func TestPartOfJoinIsWhatWasJoined(t *testing.T) {
	rng := rand.New(rand.NewSource(10))
	for range 6000 {
		// Of numbers up to 2^39 there are no channels that may not be.
		n := rng.Intn(40)
		a, b := randomChannel(rng, n, rng.Intn(40)), randomChannel(rng, n, rng.Intn(40))
		for _, mode := range modes {
			left, right, e := stereo.Join(mode, a, b)
			x, y, f := stereo.Part(mode, left, right)
			if !slices.Equal(x, a) || !slices.Equal(y, b) || e != api.OK || f != api.OK {
				t.Fatal(mode, a, b, left, right, x, y, int(e), int(f))
			}
		}
	}
}

func TestPartOfJoinOfSmallNumbers(t *testing.T) {
	for _, mode := range modes {
		for n := -30; n <= 30; n++ {
			for m := -30; m <= 30; m++ {
				left, right, e := stereo.Join(mode, []int{n}, []int{m})
				a, b, f := stereo.Part(mode, left, right)
				if !slices.Equal(a, []int{n}) || !slices.Equal(b, []int{m}) || e != api.OK || f != api.OK {
					t.Fatal(mode, n, m, left, right, a, b, int(e), int(f))
				}
			}
		}
	}
}

// has tells whether all numbers of a list are signed ones of so many bits.
func has(l []int, size int) bool {
	half := 1 << (size - 1)
	return !slices.ContainsFunc(l, func(x int) bool { return x < -half || x >= half })
}

func TestWhatIsWrittenHasSoManyBitsAndExtra(t *testing.T) {
	rng := rand.New(rand.NewSource(11))
	for size := 1; size <= 40; size++ {
		least, most := -1<<(size-1), 1<<(size-1)-1
		// The greatest and the least of them, beside each other, and others.
		left, right := []int{least, least, most, most}, []int{least, most, least, most}
		for range 100 {
			left, right = append(left, least+rng.Intn(1<<size)), append(right, least+rng.Intn(1<<size))
		}
		for _, mode := range modes {
			a, b, e := stereo.Part(mode, left, right)
			if e != api.OK {
				t.Fatal(mode, size, int(e))
			}
			for channel, l := range [][]int{a, b} {
				extra := stereo.Extra(mode, channel)
				if !has(l, size+extra) {
					t.Fatal(mode, size, channel, l)
				}
				// And not fewer: the side of the least and the greatest needs all of them.
				if size+extra > 1 && has(l, size+extra-1) {
					t.Fatal(mode, size, channel, "fewer bits do")
				}
			}
		}
	}
}
