package rice

import (
	"jetsam/api"
	"jetsam/bits"
)

// Read reads the residuals of a block, and their plan.
func Read(r *bits.Reader, block, skip int) ([]int, Plan, api.Errno) {
	if r == nil {
		return nil, Plan{}, api.ErrNil
	}
	if e := checkBlock(block, skip); e != api.OK {
		return nil, Plan{}, e
	}
	at := r.At()
	l, p, e := readBlock(r, block, skip)
	if e != api.OK {
		r.Seek(at)
		return nil, Plan{}, e
	}
	return l, p, api.OK
}

// readBlock reads a block that may be; with an error what it answers is but begun, and it stands anywhere.
func readBlock(r *bits.Reader, block, skip int) ([]int, Plan, api.Errno) {
	p, e := readParting(r, block, skip)
	if e != api.OK {
		return nil, p, e
	}
	l := make([]int, block-skip)
	for i, part := range parts(p.Order, skip, l) {
		p.Params[i], p.Bits[i], e = readPart(r, p.Method, part)
		if e != api.OK {
			return nil, p, e
		}
	}
	return l, p, api.OK
}

// readParting reads what stands ahead of the parts: a plan of so many parts, of which nothing is known.
func readParting(r *bits.Reader, block, skip int) (Plan, api.Errno) {
	method, e := r.Take(methodSize)
	if e != api.OK {
		return Plan{}, e
	}
	if method >= methods {
		return Plan{}, api.ErrCode
	}
	order, e := r.Take(orderSize)
	if e != api.OK {
		return Plan{}, e
	}
	if e := checkParting(order, block, skip); e != api.OK {
		return Plan{}, e
	}
	many := 1 << order
	return Plan{Method: method, Order: order, Params: make([]int, many), Bits: make([]int, many)}, api.OK
}

// readPart reads a part into residuals: its parameter, and its Bits.
func readPart(r *bits.Reader, method int, part []int) (param, width int, e api.Errno) {
	param, e = r.Take(paramSize(method))
	if e != api.OK {
		return 0, 0, e
	}
	if param != rawCode(method) {
		return param, 0, fill(part, func() (int, api.Errno) { return readCoded(r, param) })
	}
	width, e = r.Take(bitsSize)
	if e != api.OK {
		return 0, 0, e
	}
	return Raw, width, fill(part, func() (int, api.Errno) { return r.Signed(width) })
}

// fill takes residuals, up to one that has an error.
func fill(part []int, take func() (int, api.Errno)) api.Errno {
	for i := range part {
		x, e := take()
		if e != api.OK {
			return e
		}
		part[i] = x
	}
	return api.OK
}

// readCoded reads a residual by a parameter.
func readCoded(r *bits.Reader, param int) (int, api.Errno) {
	high, e := r.Unary()
	if e != api.OK {
		return 0, e
	}
	// Ahead of the last bits: it stands written ahead of them, and may be too great to be put together with them.
	if high > mostUnary {
		return 0, api.ErrRange
	}
	low, e := r.Take(param)
	if e != api.OK {
		return 0, e
	}
	x := unfold(high<<param | low)
	if !isResidual(x) {
		return 0, api.ErrRange
	}
	return x, api.OK
}
