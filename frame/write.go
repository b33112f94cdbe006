package frame

import (
	"slices"

	"jetsam/api"
	"jetsam/bits"
	"jetsam/header"
	"jetsam/stereo"
	"jetsam/subframe"
	"jetsam/sums"
)

// Write is a frame's bytes, with their sums.
func Write(f Frame, p api.Params) ([]byte, api.Errno) {
	head, e := header.Write(f.Header)
	if e != api.OK {
		return nil, e
	}
	depth, e := Depth(f.Header, p)
	if e != api.OK {
		return nil, e
	}
	if e := check(f, depth); e != api.OK {
		return nil, e
	}
	w := bits.NewWriter()
	w.Append(head)
	for i, l := range turned(stereo.Part, f.Mode, f.Samples...) {
		if e := subframe.Write(w, f.Plans[i], depth+stereo.Extra(f.Mode, i), l...); e != api.OK {
			return nil, e
		}
	}
	// Bytes has the noughts up to a whole one.
	return summed(w.Bytes()), api.OK
}

// Make is a frame of samples, with few bytes.
func Make(variable bool, number int, p api.Params, samples ...[]int) (Frame, api.Errno) {
	if !areChannels(samples...) {
		return Frame{}, api.ErrArg
	}
	p.Channels = len(samples)
	h, e := header.Make(variable, number, len(samples[0]), modeOf(samples...), p)
	if e != api.OK {
		return Frame{}, e
	}
	if !areSamples(p.Depth, samples...) {
		return Frame{}, api.ErrRange
	}
	f := Frame{Header: h}
	for i, l := range turned(stereo.Part, f.Mode, samples...) {
		// What is written of samples of a depth has no more bits than that, and Extra: Best takes it.
		plan, _ := subframe.Best(p.Depth+stereo.Extra(f.Mode, i), l...)
		f.Plans, f.Samples = append(f.Plans, plan), append(f.Samples, slices.Clone(samples[i]))
	}
	return f, api.OK
}

// check is what is wrong with a frame, whose header is right, but for its plans.
func check(f Frame, depth int) api.Errno {
	channels, _ := header.Channels(f.Mode)
	odd := func(l []int) bool { return len(l) != f.Block }
	if len(f.Plans) != channels || len(f.Samples) != channels || slices.ContainsFunc(f.Samples, odd) {
		return api.ErrArg
	}
	if !areSamples(depth, f.Samples...) {
		return api.ErrRange
	}
	return api.OK
}

// areChannels tells whether there are as many as a frame may have, all of as many samples.
func areChannels(channels ...[]int) bool {
	if len(channels) < 1 || len(channels) > api.MaxChannels {
		return false
	}
	odd := func(l []int) bool { return len(l) != len(channels[0]) }
	return !slices.ContainsFunc(channels, odd)
}

// modeOf is the Mode by which channels are written: of two of them the one by which they are the least in sum.
func modeOf(channels ...[]int) int {
	if len(channels) == 2 {
		if mode, e := stereo.Best(channels[0], channels[1]); e == api.OK {
			return mode
		}
	}
	return len(channels) - 1
}

// turned is two channels of a Mode as stereo.Part, or stereo.Join, turns them, which samples of a depth are never too
// great for; of a Mode that tells no side channels are left as they are.
func turned(turn func(mode int, x, y []int) ([]int, []int, api.Errno), mode int, channels ...[]int) [][]int {
	if mode < stereo.LeftSide {
		return channels
	}
	x, y, _ := turn(mode, channels[0], channels[1])
	return [][]int{x, y}
}

// summed is bytes, and behind them their sum.
func summed(b []byte) []byte {
	sum := sums.Sum16(b)
	return append(b, byte(sum>>8), byte(sum))
}
