package info

import "jetsam/api"

// How many bytes numbers have that share them with no other, and those that four share.
const (
	blockBytes  = 2
	frameBytes  = 3
	sharedBytes = 8
)

// How many bits the four have, behind those of Rate.
const (
	channelsSize = 3
	depthSize    = 5
	totalSize    = 36
)

// Write is an info's bytes.
func Write(i Info) ([]byte, api.Errno) {
	if e := Check(i); e != api.OK {
		return nil, e
	}
	shared := uint64(i.Rate)
	shared = shared<<channelsSize | uint64(i.Channels-1)
	shared = shared<<depthSize | uint64(i.Depth-1)
	shared = shared<<totalSize | uint64(i.Total)
	b := make([]byte, 0, Size)
	b = put(b, blockBytes, uint64(i.MinBlock))
	b = put(b, blockBytes, uint64(i.MaxBlock))
	b = put(b, frameBytes, uint64(i.MinFrame))
	b = put(b, frameBytes, uint64(i.MaxFrame))
	b = put(b, sharedBytes, shared)
	return append(b, i.Sum[:]...), api.OK
}

// Read is the info that bytes are.
func Read(b []byte) (Info, api.Errno) {
	if len(b) < Size {
		return Info{}, api.ErrEnd
	}
	if len(b) > Size {
		return Info{}, api.ErrForm
	}
	i := taken(b)
	if e := Check(i); e != api.OK {
		return Info{}, e
	}
	return i, api.OK
}

// taken is what bytes tell, whether it may be or not.
func taken(b []byte) (i Info) {
	take := func(many int) (n uint64) {
		for _, x := range b[:many] {
			n = n<<8 | uint64(x)
		}
		b = b[many:]
		return n
	}
	i.MinBlock = int(take(blockBytes))
	i.MaxBlock = int(take(blockBytes))
	i.MinFrame = int(take(frameBytes))
	i.MaxFrame = int(take(frameBytes))
	shared := take(sharedBytes)
	last := func(size int) int {
		n := shared & (1<<size - 1)
		shared >>= size
		return int(n)
	}
	i.Total = last(totalSize)
	i.Depth = last(depthSize) + 1
	i.Channels = last(channelsSize) + 1
	i.Rate = int(shared)
	copy(i.Sum[:], b)
	return i
}

// put appends so many bytes of a number, the highest one first.
func put(b []byte, many int, n uint64) []byte {
	for k := many - 1; k >= 0; k-- {
		b = append(b, byte(n>>(8*k)))
	}
	return b
}
