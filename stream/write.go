package stream

import (
	"bytes"
	"slices"

	"jetsam/api"
	"jetsam/blocks"
	"jetsam/frame"
	"jetsam/info"
)

// Write is the bytes of a stream of blocks, and of frames' bytes, whatever these are.
func Write(l []blocks.Block, raw ...[]byte) ([]byte, api.Errno) {
	ahead, e := blocks.Write(l...)
	if e != api.OK {
		return nil, e
	}
	parts := append([][]byte{[]byte(Marker), ahead}, raw...)
	return bytes.Join(parts, nil), api.OK
}

// Make is the bytes of a stream of samples, in frames of such sizes.
func Make(p api.Params, variable bool, sizes []int, samples ...[]int) ([]byte, api.Errno) {
	if !areChannels(p.Channels, samples...) || !areSizes(variable, sizes, len(samples[0])) {
		return nil, api.ErrParam
	}
	raw, e := framesOf(p, variable, sizes, samples...)
	if e != api.OK {
		return nil, e
	}
	// Frames were made of all samples, so that these have a digest.
	sum, _ := Sum(p.Depth, samples...)
	pieces := make([]info.Piece, len(raw))
	for n, b := range raw {
		pieces[n] = info.Piece{Block: sizes[n], Bytes: len(b)}
	}
	data, e := info.Write(info.Of(p, sum, pieces...))
	if e != api.OK {
		return nil, e
	}
	return Write([]blocks.Block{{Type: blocks.Info, Data: data}}, raw...)
}

// areChannels tells whether there are just so many, all of as many samples.
func areChannels(many int, channels ...[]int) bool {
	odd := func(l []int) bool { return len(l) != len(channels[0]) }
	return len(channels) > 0 && len(channels) == many && !slices.ContainsFunc(channels, odd)
}

// areSizes tells whether a stream of so many samples may have frames of such sizes.
func areSizes(variable bool, sizes []int, samples int) bool {
	for n, size := range sizes {
		isLast := n == len(sizes)-1
		if size < 1 || size > api.MaxBlock || !isLast && size < info.MinBlock {
			return false
		}
		if !variable && (size > sizes[0] || !isLast && size < sizes[0]) {
			return false
		}
		samples -= size
	}
	return len(sizes) > 0 && samples == 0
}

// framesOf is the bytes of frames of such sizes, which are all samples together.
func framesOf(p api.Params, variable bool, sizes []int, samples ...[]int) ([][]byte, api.Errno) {
	var raw [][]byte
	ahead := 0
	for n, size := range sizes {
		number := n
		if variable {
			number = ahead
		}
		part := make([][]int, len(samples))
		for i, l := range samples {
			part[i] = l[ahead : ahead+size]
		}
		f, e := frame.Make(variable, number, p, part...)
		if e != api.OK {
			return nil, e
		}
		b, e := frame.Write(f, p)
		if e != api.OK {
			return nil, e
		}
		raw = append(raw, b)
		ahead += size
	}
	return raw, api.OK
}
