package frame

import (
	"slices"

	"jetsam/api"
	"jetsam/bits"
	"jetsam/header"
	"jetsam/stereo"
	"jetsam/subframe"
	"jetsam/sums"
)

// reach is how many bytes a frame is first looked for in: as many as most frames have.
const reach = 1 << 14

// sumSize is how many bytes a frame's sum has.
const sumSize = 2

// Read is the frame with which bytes begin, and how many it has.
func Read(b []byte, p api.Params) (Frame, int, api.Errno) {
	h, begin, e := header.Read(b)
	if e != api.OK {
		return Frame{}, 0, e
	}
	depth, e := Depth(h, p)
	if e != api.OK {
		return Frame{}, 0, e
	}
	// A Reader copies its bytes, and who looks for frames asks at many places of long bytes: it is given no more than may
	// be needed, and more only if these run out.
	for n := reach; ; n *= 2 {
		f, size, e := readBehind(b[:min(n, len(b))], begin, h, depth)
		if e != api.ErrEnd || n >= len(b) {
			return f, size, e
		}
	}
}

// Renumber is a frame's bytes with another number, and their sums.
func Renumber(b []byte, p api.Params, variable bool, number int) ([]byte, api.Errno) {
	f, size, e := Read(b, p)
	if e != api.OK {
		return nil, e
	}
	if size < len(b) {
		return nil, api.ErrForm
	}
	// The header is as long as it was found; what stands behind it begins at a whole byte, wherever that is.
	_, begin, _ := header.Read(b)
	f.Variable, f.Number = variable, number
	head, e := header.Write(f.Header)
	if e != api.OK {
		return nil, e
	}
	return summed(slices.Concat(head, b[begin:size-sumSize])), api.OK
}

// readBehind reads what stands behind a frame's header, which bytes begin with.
func readBehind(b []byte, begin int, h header.Header, depth int) (Frame, int, api.Errno) {
	r := bits.NewReader(b)
	r.Seek(8 * begin)
	f, e := readChannels(r, h, depth)
	if e != api.OK {
		return Frame{}, 0, e
	}
	if e := readEnd(r, b); e != api.OK {
		return Frame{}, 0, e
	}
	f.Samples = turned(stereo.Join, h.Mode, f.Samples...)
	if !areSamples(depth, f.Samples...) {
		return Frame{}, 0, api.ErrRange
	}
	return f, r.At() / 8, api.OK
}

// readChannels reads what is written of each channel, which is not joined yet; with an error what it answers is but begun.
func readChannels(r *bits.Reader, h header.Header, depth int) (f Frame, e api.Errno) {
	f.Header = h
	many, _ := header.Channels(f.Mode)
channels:
	for i := range many {
		l, p, wrong := subframe.Read(r, f.Block, depth+stereo.Extra(f.Mode, i))
		if wrong != api.OK {
			e = wrong
			break channels
		}
		f.Plans, f.Samples = append(f.Plans, p), append(f.Samples, l)
	}
	return f, e
}

// readEnd reads what stands behind all channels: noughts up to a whole byte, and the sum of all bytes ahead of it.
func readEnd(r *bits.Reader, b []byte) api.Errno {
	if _, e := r.Align(); e != api.OK {
		return e
	}
	ahead := b[:r.At()/8]
	sum, e := r.Take(8 * sumSize)
	if e != api.OK {
		return e
	}
	if sum != sums.Sum16(ahead) {
		return api.ErrSum16
	}
	return api.OK
}
