package subframe

import (
	"math/bits"

	"jetsam/api"
	"jetsam/predict"
	"jetsam/rice"
)

// mostParting is the greatest order of parts by which Best looks for residuals' plans.
const mostParting = 4

// Best is a plan by which samples have few bits.
func Best(depth int, l ...int) (Plan, api.Errno) {
	if e := checkBlock(len(l), depth); e != api.OK {
		return Plan{}, e
	}
	if !areSamples(depth, l) {
		return Plan{}, api.ErrRange
	}
	wasted := noughts(l)
	if isConstant(l) {
		return Plan{Kind: Constant, Wasted: wasted}, api.OK
	}
	p, size, found := leastFixed(depth-wasted, divided(l, wasted))
	if !found || size >= len(l)*(depth-wasted) {
		p = Plan{Kind: Verbatim}
	}
	p.Wasted = wasted
	return p, api.OK
}

// noughts is how many of them all samples end with: none, if all are 0.
func noughts(l []int) int {
	all := union(l)
	if all == 0 {
		return 0
	}
	return bits.TrailingZeros(uint(all))
}

// leastFixed is the Fixed plan of the order that leaves the least of divided samples, how many bits it has behind what
// Verbatim has too, and whether there is one.
func leastFixed(depth int, l []int) (p Plan, size int, found bool) {
	p = Plan{Kind: Fixed, Order: predict.Best(l...)}
	residuals, e := predict.Residual(prediction(p), l...)
	if e != api.OK {
		return Plan{}, 0, false
	}
	if p.Rice, e = rice.Best(mostParting, p.Order, residuals...); e != api.OK {
		return Plan{}, 0, false
	}
	size, e = rice.Size(p.Rice, p.Order, residuals...)
	return p, p.Order*depth + size, e == api.OK
}
