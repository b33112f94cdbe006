package bits

import (
	"slices"

	"jetsam/api"
)

// Writer writes bits.
type Writer struct {
	place
	bytes []byte // all bits, with noughts behind them up to a whole byte
}

// NewWriter is one without bits.
func NewWriter() *Writer { return &Writer{} }

// Put writes a number of so many bits.
func (w *Writer) Put(n, v int) api.Errno {
	if w == nil {
		return api.ErrNil
	}
	if !mayBe(n) {
		return api.ErrArg
	}
	if v < 0 || v >= 1<<n {
		return api.ErrRange
	}
	w.number(n, v)
	return api.OK
}

// Signed writes a number of so many bits, the first one of which is its sign.
func (w *Writer) Signed(n, v int) api.Errno {
	if w == nil {
		return api.ErrNil
	}
	if !mayBe(n) {
		return api.ErrArg
	}
	if !isSigned(n, v) {
		return api.ErrRange
	}
	w.number(n, v)
	return api.OK
}

// Unary writes so many noughts, and a one.
func (w *Writer) Unary(n int) api.Errno {
	if w == nil {
		return api.ErrNil
	}
	if n < 0 || n > mostUnary {
		return api.ErrRange
	}
	w.noughts(n)
	w.number(1, 1)
	return api.OK
}

// Align writes noughts up to the next byte's beginning; how many.
func (w *Writer) Align() int {
	if w == nil {
		return 0
	}
	n := w.pad()
	w.noughts(n)
	return n
}

// Append writes bytes.
func (w *Writer) Append(l ...[]byte) {
	if w == nil {
		return
	}
	for _, b := range l {
		if w.pad() == 0 {
			w.bytes = append(w.bytes, b...)
			w.forth(8 * len(b))
			continue
		}
		for _, v := range b {
			w.number(8, int(v))
		}
	}
}

// Len is how many bits there are.
func (w *Writer) Len() int {
	if w == nil {
		return 0
	}
	return w.at
}

// Bytes is all bits, with noughts behind them up to a whole byte.
func (w *Writer) Bytes() []byte {
	if w == nil {
		return nil
	}
	return slices.Clone(w.bytes)
}

// isSigned tells whether v is a signed number of n bits.
func isSigned(n, v int) bool {
	if n == 0 {
		return v == 0
	}
	half := 1 << (n - 1)
	return -half <= v && v < half
}

// noughts writes n of them.
func (w *Writer) noughts(n int) {
	w.forth(n)
	whole := (w.at + w.pad()) / 8
	w.bytes = append(w.bytes, make([]byte, whole-len(w.bytes))...)
}

// number writes the last n bits of v.
func (w *Writer) number(n, v int) {
	p := w.place
	w.noughts(n)
	for n > 0 {
		many, behind := p.share(n)
		n -= many
		w.bytes[p.at/8] |= byte(v >> n & (1<<many - 1) << behind)
		p.forth(many)
	}
}
