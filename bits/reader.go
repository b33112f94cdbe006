package bits

import (
	"slices"

	"jetsam/api"
)

// Reader reads bits, the greatest one of each byte first.
type Reader struct {
	place
	bytes []byte
}

// NewReader is one at the beginning of bytes.
func NewReader(b []byte) *Reader {
	// A copy, so that it reads what was handed in, whatever the caller writes there later.
	return &Reader{bytes: slices.Clone(b)}
}

// Take reads a number of so many bits.
func (r *Reader) Take(n int) (int, api.Errno) {
	if r == nil {
		return 0, api.ErrNil
	}
	if !mayBe(n) {
		return 0, api.ErrArg
	}
	if n > r.Left() {
		return 0, api.ErrEnd
	}
	v := r.ahead(n)
	r.forth(n)
	return v, api.OK
}

// Signed reads a number of so many bits, the first one of which is its sign.
func (r *Reader) Signed(n int) (int, api.Errno) {
	v, e := r.Take(n)
	if e != api.OK {
		return 0, e
	}
	if n > 0 && v>>(n-1) == 1 {
		v -= 1 << n
	}
	return v, api.OK
}

// Unary reads noughts up to a one, and that; how many noughts.
func (r *Reader) Unary() (int, api.Errno) {
	if r == nil {
		return 0, api.ErrNil
	}
	one := r.nextOne()
	if one == r.size() {
		return 0, api.ErrEnd
	}
	n := one - r.at
	r.forth(n + 1)
	return n, api.OK
}

// Align goes to the next byte's beginning; how many bits it went over.
func (r *Reader) Align() (int, api.Errno) {
	if r == nil {
		return 0, api.ErrNil
	}
	n := r.pad()
	if r.ahead(n) != 0 {
		return 0, api.ErrForm
	}
	r.forth(n)
	return n, api.OK
}

// At is how many bits are behind.
func (r *Reader) At() int {
	if r == nil {
		return 0
	}
	return r.at
}

// Left is how many bits are ahead.
func (r *Reader) Left() int {
	if r == nil {
		return 0
	}
	return r.size() - r.at
}

// Seek goes to a bit.
func (r *Reader) Seek(at int) api.Errno {
	if r == nil {
		return api.ErrNil
	}
	if at < 0 || at > r.size() {
		return api.ErrRange
	}
	r.at = at
	return api.OK
}

// size is how many bits there are, behind and ahead.
func (r *Reader) size() int { return 8 * len(r.bytes) }

// ahead is the number that the next n bits are; so many there must be.
func (r *Reader) ahead(n int) int {
	v, p := 0, r.place
	for n > 0 {
		many, behind := p.share(n)
		v = v<<many | int(r.bytes[p.at/8])>>behind&(1<<many-1)
		p.forth(many)
		n -= many
	}
	return v
}

// nextOne is where the next one stands; the end, if none is ahead.
func (r *Reader) nextOne() int {
	p := r.place
	// Bytes without a one are gone over whole: a damaged stream may have many of them.
search:
	for ; p.at < r.size(); p.forth(p.room()) {
		for rest := r.bytes[p.at/8] << (p.at % 8); rest != 0; rest <<= 1 {
			if rest&0x80 != 0 {
				break search
			}
			p.forth(1)
		}
	}
	return p.at
}
