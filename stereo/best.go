package stereo

import (
	"math/bits"

	"jetsam/api"
)

// magnitude is a sum of numbers without their signs: of as many numbers as the limits let in, more than 64 bits hold.
type magnitude struct {
	high, low uint64
}

// Best is the mode in which two channels are the least in all.
func Best(left, right []int) (int, api.Errno) {
	if e := check(left, right); e != api.OK {
		return 0, e
	}
	best, least := 0, magnitude{}
	for _, mode := range [...]int{asTheyAre, LeftSide, SideRight, MidSide} {
		if sum := sumOf(parting(mode), left, right); best == 0 || sum.less(least) {
			best, least = mode, sum
		}
	}
	return best, api.OK
}

// sumOf is the sum of what two channels are turned into.
func sumOf(t turn, left, right []int) (sum magnitude) {
	for i := range left {
		a, b := t(left[i], right[i])
		// No more than 2^40 and 2^41: the two of them fit.
		sum = sum.plus(uint64(max(a, -a) + max(b, -b)))
	}
	return sum
}

// plus is the sum and a number more.
func (m magnitude) plus(n uint64) magnitude {
	low, carry := bits.Add64(m.low, n, 0)
	return magnitude{m.high + carry, low}
}

// less tells whether a sum is less than another one.
func (m magnitude) less(n magnitude) bool {
	return m.high < n.high || m.high == n.high && m.low < n.low
}
