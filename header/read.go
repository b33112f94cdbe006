package header

import (
	"jetsam/api"
	"jetsam/bits"
	"jetsam/coded"
	"jetsam/sums"
)

// mostBytes is how many bytes a header has at most: four, a Number's seven, four of a Block and a Rate, and the sum.
const mostBytes = 16

// reader reads what a header is written in: bytes, of which it has a copy.
type reader struct {
	*bits.Reader
	bytes []byte
}

// Read is the header with which bytes begin, and how many it has.
func Read(b []byte) (Header, int, api.Errno) {
	// Who looks for headers asks at each place of long bytes: what no header reaches is not copied.
	b = b[:min(len(b), mostBytes)]
	r := reader{bits.NewReader(b), b}
	h, e := r.header()
	if e != api.OK {
		return Header{}, 0, e
	}
	return h, r.At() / 8, api.OK
}

// header reads a header; with an error what it answers is but begun.
func (r reader) header() (h Header, e api.Errno) {
	if h.Variable, e = r.sync(); e != api.OK {
		return h, e
	}
	if h.BlockCode, h.RateCode, e = r.codes(); e != api.OK {
		return h, e
	}
	if h.Mode, h.DepthCode, e = r.modeAndDepth(); e != api.OK {
		return h, e
	}
	if h.Number, e = r.number(h.Variable); e != api.OK {
		return h, e
	}
	if h.Block, e = r.told(blocks.row(h.BlockCode)); e != api.OK {
		return h, e
	}
	if h.Rate, e = r.told(rates.row(h.RateCode)); e != api.OK {
		return h, e
	}
	if h.Depth, e = r.told(depths.row(h.DepthCode)); e != api.OK {
		return h, e
	}
	return h, r.expect(8, sums.Sum8(r.bytes[:r.At()/8]), api.ErrSum8)
}

// sync reads what each header begins with, and whether it is Variable.
func (r reader) sync() (variable bool, e api.Errno) {
	// By bytes: what is wrong in the first one comes ahead of a second one that is not there.
	e = first(
		r.expect(8, sync>>(syncSize-8), api.ErrSync),
		r.expect(syncSize-8, sync&(1<<(syncSize-8)-1), api.ErrSync),
	)
	if e != api.OK {
		return false, e
	}
	so, e := r.Take(1)
	return so == 1, e
}

// codes reads those of Block and Rate.
func (r reader) codes() (block, rate int, e api.Errno) {
	block, e = r.Take(blockCodeSize)
	rate, f := r.Take(rateCodeSize)
	return block, rate, first(e, f, unless(blocks.has(block) && rates.has(rate), api.ErrCode))
}

// modeAndDepth reads Mode, the code of Depth, and the bit that has to be 0.
func (r reader) modeAndDepth() (mode, depth int, e api.Errno) {
	mode, e = r.Take(modeSize)
	depth, f := r.Take(depthCodeSize)
	_, g := Channels(mode)
	return mode, depth, first(e, f, g, unless(depths.has(depth), api.ErrCode), r.expect(1, 0, api.ErrForm))
}

// number reads Number.
func (r reader) number(variable bool) (int, api.Errno) {
	n, size, e := coded.Get(r.bytes[r.At()/8:])
	return n, first(e, unless(mayBe(variable, n), api.ErrRange), r.Seek(r.At()+8*size))
}

// told reads what a code tells; of one that has no bits behind Number it reads none.
func (r reader) told(c row) (int, api.Errno) {
	more, e := r.Take(c.size)
	if e != api.OK {
		return 0, e
	}
	if c.least+more > c.most {
		return 0, api.ErrCode
	}
	return c.unit * (c.least + more), api.OK
}

// expect reads a number that has to be as told.
func (r reader) expect(n, want int, wrong api.Errno) api.Errno {
	v, e := r.Take(n)
	return first(e, unless(v == want, wrong))
}
