package rice

import (
	"math/bits"
	"slices"

	"jetsam/api"
)

// choice is how a part may be written, and in how many bits.
type choice struct {
	param, width, size int
}

// Best is a plan by which residuals have as few bits as may be, of those of no more than so many parts (2 to the order).
func Best(order, skip int, l ...int) (Plan, api.Errno) {
	if order < 0 || order > mostOrder {
		return Plan{}, api.ErrRange
	}
	block := len(l) + skip
	if e := checkBlock(block, skip); e != api.OK {
		return Plan{}, e
	}
	if e := checkParting(0, block, skip); e != api.OK {
		return Plan{}, e
	}
	folded, e := foldAll(l)
	if e != api.OK {
		return Plan{}, e
	}
	return leastPlan(order, skip, folded), api.OK
}

// leastPlan is the plan of folded residuals that Best answers. There is one: the greatest parameter of the greater Method
// writes all of them.
func leastPlan(order, skip int, folded []int) Plan {
	var best Plan
	least := 0
search:
	for method := range methods {
		for o := range order + 1 {
			// Where an Order does not part a block, no greater one does.
			if checkParting(o, len(folded)+skip, skip) != api.OK {
				continue search
			}
			p, size := Plan{Method: method, Order: o}, methodSize+orderSize
			for _, part := range parts(o, skip, folded) {
				c, may := cheapest(method, part)
				// A residual that no parameter writes is in a part of every Order.
				if !may {
					continue search
				}
				p.Params = append(p.Params, c.param)
				p.Bits = append(p.Bits, c.width)
				size += c.size
			}
			// The first one of several of a Size has the least Method, then the least Order.
			if best.Params == nil || size < least {
				best, least = p, size
			}
		}
	}
	return best
}

// cheapest is how a part of folded residuals is written in the fewest bits, and whether it may be written at all. The
// least parameter comes first, and Raw last, so that of several the first one is it.
func cheapest(method int, part []int) (best choice, found bool) {
	tell := cost(method, part)
	consider := func(param, width int) {
		size, may := tell(param, width)
		if may && (!found || size < best.size) {
			best, found = choice{param, width, size}, true
		}
	}
	// By a parameter of as many bits as the greatest number has, all unary numbers are 0: a greater one only costs more.
	width := bits.Len(uint(slices.Max(part)))
	for param := range min(width, mostParam(method)) + 1 {
		consider(param, 0)
	}
	if width <= mostBits {
		consider(Raw, width)
	}
	return best, found
}

// cost tells in how many bits a part of folded residuals is written by a parameter (and Bits, if that is Raw), and
// whether it may be.
func cost(method int, part []int) func(param, width int) (size int, may bool) {
	greatest := slices.Max(part)
	return func(param, width int) (int, bool) {
		size := paramSize(method)
		if param == Raw {
			// A signed number of so many bits, folded, is one of as many bits.
			return size + bitsSize + width*len(part), greatest>>width == 0
		}
		size += (1 + param) * len(part)
		for _, n := range part {
			size += n >> param
		}
		return size, greatest>>param <= mostUnary
	}
}
