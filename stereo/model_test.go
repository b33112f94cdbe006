package stereo_test

import (
	"math"
	"math/big"
	"math/rand"
	"slices"
	"testing"

	"jetsam/api"
	"jetsam/stereo"
)

// The tests hold the package against numbers of any size, of which a half is rounded down. What is joined is held
// against all channels that there are of small numbers, and against equations that these alone solve.

// bound is the greatest number that may be, and, with its sign turned, the least.
const bound = 1 << 40

// modes are all of them, the least one first.
var modes = []int{1, 8, 9, 10}

// wrongModes are none.
func wrongModes() []int {
	l := []int{0, 2, 3, 4, 5, 6, 7, 11, -1, -8, -10, 12, 13, 15, 16, 18, 255, 256, 257, 264, 1 << 32, 1<<32 + 1, 1<<32 + 8, 1<<32 + 10, math.MinInt, math.MaxInt}
	for n := -100; n <= 100; n++ {
		if !slices.Contains(modes, n) && !slices.Contains(l, n) {
			l = append(l, n)
		}
	}
	return l
}

// wrongNumbers may not be.
func wrongNumbers() []int {
	return []int{bound + 1, -bound - 1, bound + 2, 2 * bound, -2 * bound, 1 << 62, -1 << 62, math.MaxInt, math.MinInt, math.MinInt + 1}
}

// large is a number of any size.
func large(n int) *big.Int { return big.NewInt(int64(n)) }

// sideOf is the left sample less the right one.
func sideOf(left, right int) int {
	return int(new(big.Int).Sub(large(left), large(right)).Int64())
}

// middleOf is half their sum, rounded down: so Div does of a positive divisor.
func middleOf(left, right int) int {
	sum := new(big.Int).Add(large(left), large(right))
	return int(sum.Div(sum, large(2)).Int64())
}

// isWrong tells whether a number may not be.
func isWrong(x int) bool { return x < -bound || x > bound }

// checkOf is what is wrong with two channels.
func checkOf(x, y []int) api.Errno {
	switch {
	case len(x) != len(y):
		return api.ErrArg
	case slices.ContainsFunc(x, isWrong) || slices.ContainsFunc(y, isWrong):
		return api.ErrRange
	}
	return api.OK
}

// partOf is what Part has to answer.
func partOf(mode int, left, right []int) (a, b []int, e api.Errno) {
	if !slices.Contains(modes, mode) {
		return nil, nil, api.ErrCode
	}
	if e := checkOf(left, right); e != api.OK {
		return nil, nil, e
	}
	for i := range left {
		x, y := left[i], right[i]
		switch mode {
		case 8:
			y = sideOf(left[i], right[i])
		case 9:
			x = sideOf(left[i], right[i])
		case 10:
			x, y = middleOf(left[i], right[i]), sideOf(left[i], right[i])
		}
		a, b = append(a, x), append(b, y)
	}
	return a, b, api.OK
}

// parts tells that Part answers what it has to, and what that is.
func parts(t *testing.T, mode int, left, right []int) (a, b []int, e api.Errno) {
	t.Helper()
	x, y, f := partOf(mode, left, right)
	a, b, e = stereo.Part(mode, left, right)
	if !slices.Equal(a, x) || !slices.Equal(b, y) || e != f {
		t.Fatalf("mode %d of %.40v, %.40v: %.40v, %.40v, error %d, not %.40v, %.40v, error %d", mode, left, right, a, b, int(e), x, y, int(f))
	}
	return a, b, e
}

// joins tells that Join answers the channels.
func joins(t *testing.T, mode int, a, b, left, right []int) {
	t.Helper()
	if l, r, e := stereo.Join(mode, a, b); !slices.Equal(l, left) || !slices.Equal(r, right) || e != api.OK {
		t.Fatalf("mode %d of %.40v, %.40v: %.40v, %.40v, error %d, not %.40v, %.40v", mode, a, b, l, r, int(e), left, right)
	}
}

// refuses tells that Part and Join answer an error, and nothing else.
func refuses(t *testing.T, want api.Errno, mode int, x, y []int) {
	t.Helper()
	if a, b, e := stereo.Part(mode, x, y); len(a) != 0 || len(b) != 0 || e != want {
		t.Errorf("mode %d of %v, %v: Part %v, %v, error %d, not %d", mode, x, y, a, b, int(e), int(want))
	}
	if l, r, e := stereo.Join(mode, x, y); len(l) != 0 || len(r) != 0 || e != want {
		t.Errorf("mode %d of %v, %v: Join %v, %v, error %d, not %d", mode, x, y, l, r, int(e), int(want))
	}
}

// randomChannel is so many numbers of about so many bits; numbers at the edges are among them.
func randomChannel(rng *rand.Rand, n, about int) []int {
	l := make([]int, n)
	top := 1 << about
	for i := range l {
		switch l[i] = rng.Intn(2*top+1) - top; rng.Intn(10) {
		case 0:
			l[i] = -top
		case 1:
			l[i] = top
		}
	}
	return l
}

// near is a channel whose numbers differ by little from another one's, and may be.
func near(rng *rand.Rand, l []int, little int) []int {
	l = slices.Clone(l)
	for i := range l {
		l[i] = max(-bound, min(bound, l[i]+rng.Intn(2*little+1)-little))
	}
	return l
}
