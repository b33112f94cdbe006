package digest

import (
	"jetsam/api"
)

// leastDepth is that of samples of the fewest bits.
const leastDepth = 4

// Bytes is samples of channels as they are digested.
func Bytes(depth int, channels ...[]int) ([]byte, api.Errno) {
	if !mayBe(depth, channels) {
		return nil, api.ErrArg
	}
	for _, samples := range channels {
		if !within(depth, samples) {
			return nil, api.ErrRange
		}
	}
	size := (depth + 7) / 8
	b := make([]byte, 0, size*len(channels)*len(channels[0]))
	for at := range channels[0] {
		for _, samples := range channels {
			b = leastFirst(b, uint64(samples[at]), size)
		}
	}
	return b, api.OK
}

// mayBe tells whether there is such a depth, and whether channels may be so many, all as long.
func mayBe(depth int, channels [][]int) bool {
	if depth < leastDepth || depth > api.MaxDepth {
		return false
	}
	if len(channels) < 1 || len(channels) > api.MaxChannels {
		return false
	}
	for _, samples := range channels {
		if len(samples) != len(channels[0]) {
			return false
		}
	}
	return true
}

// within tells whether samples are of a depth.
func within(depth int, samples []int) bool {
	above := 1 << (depth - 1)
	for _, v := range samples {
		if v < -above || v >= above {
			return false
		}
	}
	return true
}
