package info

import (
	"cmp"
	"slices"

	"jetsam/api"
)

// Piece is a frame's samples and bytes.
type Piece struct {
	Block int
	Bytes int
}

// Of is the info of a stream of pieces.
func Of(p api.Params, sum [16]byte, l ...Piece) Info {
	i := Info{Params: p, MinBlock: MinBlock, MaxBlock: MinBlock, Sum: sum}
	if len(l) == 0 {
		return i
	}
	byBlock := func(a, b Piece) int { return cmp.Compare(a.Block, b.Block) }
	byBytes := func(a, b Piece) int { return cmp.Compare(a.Bytes, b.Bytes) }
	// The last one has what is left over, so it may be smaller; but if it is alone, it counts.
	ahead := l[:max(1, len(l)-1)]
	i.MinBlock = max(MinBlock, slices.MinFunc(ahead, byBlock).Block)
	i.MaxBlock = max(MinBlock, slices.MaxFunc(l, byBlock).Block)
	i.MinFrame = told(slices.MinFunc(l, byBytes).Bytes)
	i.MaxFrame = told(slices.MaxFunc(l, byBytes).Bytes)
	i.Total = samples(l)
	return i
}

// Covers is what is at odds between an info and pieces.
func (i Info) Covers(l ...Piece) api.Errno {
	if len(l) == 0 {
		return api.ErrNone
	}
	last := len(l) - 1
	if slices.ContainsFunc(l, i.excludes) || slices.ContainsFunc(l[:last], i.isShort) {
		return api.ErrParam
	}
	if i.Total != 0 && i.Total != samples(l) {
		return api.ErrParam
	}
	return api.OK
}

// excludes tells whether a piece is none of such a stream, wherever it stands.
func (i Info) excludes(p Piece) bool {
	return p.Block > i.MaxBlock ||
		i.MinFrame != 0 && i.MinFrame > p.Bytes ||
		i.MaxFrame != 0 && i.MaxFrame < p.Bytes
}

// isShort tells whether a piece may but be the last one.
func (i Info) isShort(p Piece) bool { return p.Block < i.MinBlock }

// told is a frame's size, or 0 of one that is too great for an info to tell.
func told(size int) int {
	if size > MaxFrame {
		return 0
	}
	return size
}

// samples is how many samples pieces have.
func samples(l []Piece) (n int) {
	for _, p := range l {
		n += p.Block
	}
	return n
}
