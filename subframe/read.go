package subframe

import (
	"slices"

	"jetsam/api"
	"jetsam/bits"
	"jetsam/predict"
	"jetsam/rice"
)

// reader reads what a channel is written in.
type reader struct {
	*bits.Reader
}

// Read reads a channel's samples, and their plan.
func Read(r *bits.Reader, block, depth int) ([]int, Plan, api.Errno) {
	if r == nil {
		return nil, Plan{}, api.ErrNil
	}
	if e := checkBlock(block, depth); e != api.OK {
		return nil, Plan{}, e
	}
	at := r.At()
	l, p, e := reader{r}.channel(block, depth)
	if e != api.OK {
		r.Seek(at)
		return nil, Plan{}, e
	}
	return l, p, api.OK
}

// channel reads a channel; with an error what it answers is but begun, and it stands anywhere.
func (r reader) channel(block, depth int) ([]int, Plan, api.Errno) {
	p, e := r.code()
	if e != api.OK {
		return nil, p, e
	}
	if p.Wasted, e = r.wasted(depth); e != api.OK {
		return nil, p, e
	}
	depth -= p.Wasted
	l, e := r.samples(plainMany(p, block), depth)
	if e != api.OK {
		return nil, p, e
	}
	// What stands behind these samples; of Verbatim ones it is nothing.
rest:
	switch p.Kind {
	case Linear:
		if p.Linear, e = r.linear(p.Order); e != api.OK {
			break rest
		}
		fallthrough
	case Fixed:
		var residuals []int
		if residuals, p.Rice, e = rice.Read(r.Reader, block, p.Order); e != api.OK {
			break rest
		}
		l, e = restored(p, depth, l, residuals)
	case Constant:
		l = slices.Repeat(l, block)
	}
	for i := range l {
		l[i] <<= p.Wasted
	}
	return l, p, e
}

// code reads what a plan begins with: one of its Kind, and its Order.
func (r reader) code() (Plan, api.Errno) {
	first, e := r.Take(1)
	if e != api.OK {
		return Plan{}, e
	}
	if first != 0 {
		return Plan{}, api.ErrForm
	}
	code, e := r.Take(codeSize)
	if e != api.OK {
		return Plan{}, e
	}
	for i, k := range kinds {
		if order := code - k.code; k.least <= order && order <= k.most {
			return Plan{Kind: i, Order: order}, api.OK
		}
	}
	return Plan{}, api.ErrCode
}

// wasted reads how often samples of a depth were divided by 2.
func (r reader) wasted(depth int) (int, api.Errno) {
	sign, e := r.Take(wastedSize)
	if e != api.OK || sign == 0 {
		return 0, e
	}
	less, e := r.Unary()
	if e != api.OK {
		return 0, e
	}
	if less+1 >= depth {
		return 0, api.ErrRange
	}
	return less + 1, api.OK
}

// samples reads so many, as they are.
func (r reader) samples(many, depth int) ([]int, api.Errno) {
	// Ahead of them: damaged bytes often tell of more samples than there is room for.
	if many*depth > r.Left() {
		return nil, api.ErrEnd
	}
	l := make([]int, many)
	for i := range l {
		l[i], _ = r.Signed(depth)
	}
	return l, api.OK
}

// linear reads a prediction of an order.
func (r reader) linear(order int) (predict.Linear, api.Errno) {
	less, e := r.Take(precisionSize)
	if e != api.OK {
		return predict.Linear{}, e
	}
	if less == 1<<precisionSize-1 {
		return predict.Linear{}, api.ErrCode
	}
	shift, e := r.Signed(shiftSize)
	if e != api.OK {
		return predict.Linear{}, e
	}
	if shift < 0 {
		return predict.Linear{}, api.ErrRange
	}
	coefs, e := r.samples(order, less+1)
	return predict.Linear{Precision: less + 1, Shift: shift, Coefs: coefs}, e
}

// restored is the first samples and those that residuals tell, all of a depth.
func restored(p Plan, depth int, first, residuals []int) ([]int, api.Errno) {
	l, e := predict.Restore(prediction(p), first, residuals...)
	if e != api.OK {
		return nil, e
	}
	if !areSamples(depth, l) {
		return nil, api.ErrRange
	}
	return l, api.OK
}
