package blocks

import (
	"bytes"
	"slices"

	"jetsam/api"
)

// How many bytes an Info's Data have, and with how many an App's begin, its name.
const (
	infoSize = 34
	nameSize = 4
)

// zero is of what a Padding's Data are.
const zero = "\x00"

// Order is what is wrong with the blocks of a stream.
func Order(l ...Block) api.Errno {
	isTwice := func(kind int) bool {
		many := 0
		for _, k := range l {
			if k.Type == kind {
				many++
			}
		}
		return many > 1
	}
	switch {
	case len(l) == 0 || l[0].Type != Info:
		return api.ErrNone
	case isTwice(Info) || isTwice(Seek) || isTwice(Comment):
		return api.ErrMany
	case len(l[0].Data) != infoSize:
		return api.ErrRange
	case slices.ContainsFunc(l, isMisshapen):
		return api.ErrForm
	}
	return api.OK
}

// isMisshapen tells whether Data are none that blocks of that Type have.
func isMisshapen(k Block) bool {
	switch k.Type {
	case Padding:
		return len(bytes.Trim(k.Data, zero)) > 0
	case App:
		return len(k.Data) < nameSize
	case Seek:
		return len(k.Data)%pointSize != 0
	}
	return false
}

// Zeros is a Padding of so many bytes.
func Zeros(n int) (Block, api.Errno) {
	if n < 0 || n > MaxData {
		return Block{}, api.ErrRange
	}
	return Block{Type: Padding, Data: make([]byte, n)}, api.OK
}

// Name is the name of an App, and what stands behind it.
func Name(b Block) (string, []byte, api.Errno) {
	if b.Type != App {
		return "", nil, api.ErrCode
	}
	if len(b.Data) < nameSize {
		return "", nil, api.ErrEnd
	}
	return string(b.Data[:nameSize]), bytes.Clone(b.Data[nameSize:]), api.OK
}
