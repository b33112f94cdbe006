package stream_test

import (
	"bytes"
	"math/rand"
	"slices"
	"testing"

	"jetsam/api"
	"jetsam/blocks"
	"jetsam/info"
	"jetsam/stream"
)

// P14.1, of any streams, and of any damage.

// randomSheet is a stream of few frames, in which all that may be told is told, or not.
func randomSheet(t *testing.T, rng *rand.Rand) sheet {
	t.Helper()
	p := randomParams(rng)
	isVariable := rng.Intn(2) == 0
	sizes := randomSizes(rng, isVariable, 1+rng.Intn(4))
	var s sheet
	var pieces []info.Piece
	var points []blocks.Point
	var sound [][]int
	sample, offset := 0, 0
	for n, size := range sizes {
		l := randomSound(rng, p, size)
		s.raw = append(s.raw, rawOf(t, p, isVariable, map[bool]int{false: n, true: sample}[isVariable], l...))
		pieces = append(pieces, info.Piece{Block: size, Bytes: len(s.raw[n])})
		points = append(points, point(sample, offset, size))
		sample, offset = sample+size, offset+len(s.raw[n])
		if n == 0 {
			sound = make([][]int, len(l))
		}
		for i := range l {
			sound[i] = slices.Concat(sound[i], l[i])
		}
	}
	s.info = info.Of(p, digestOf(p.Depth, sound...), pieces...)
	for range rng.Intn(4) {
		some(rng, func() { s.info.Total = 0 }, func() { s.info.Sum = [16]byte{} }, func() { s.info.MinFrame = 0 }, func() { s.info.MaxFrame = 0 }, func() { s.info.MinBlock = 16 })()
	}
	if rng.Intn(2) == 0 {
		s = s.with(block(1, zeros(rng.Intn(9))))
	}
	if rng.Intn(2) == 0 {
		points = slices.DeleteFunc(points, func(blocks.Point) bool { return rng.Intn(4) == 0 })
		s = s.with(pointsBlock(t, append(points, slices.Repeat([]blocks.Point{kept()}, rng.Intn(3))...)...))
	}
	if rng.Intn(2) == 0 {
		s = s.with(comments(t, slices.Repeat([]string{"A=b"}, rng.Intn(3))...))
	}
	return s
}

// other is a sheet in which something is another thing, or not.
func (s sheet) other(t *testing.T, rng *rand.Rand) sheet {
	t.Helper()
	s.raw = slices.Clone(s.raw)
	n := rng.Intn(len(s.raw))
	m := rng.Intn(len(s.raw))
	switch rng.Intn(9) {
	case 0:
		s.raw[n], s.raw[m] = s.raw[m], s.raw[n]
	case 1:
		s.raw = slices.Delete(s.raw, n, n+1)
	case 2:
		s.raw = slices.Insert(s.raw, m, s.raw[n])
	case 3:
		s.raw[n] = changed(s.raw[n], rng.Intn(len(s.raw[n])), byte(1<<rng.Intn(8)))
	case 4:
		s.raw[n] = s.raw[n][:len(s.raw[n])-rng.Intn(len(s.raw[n]))]
	case 5:
		p := s.info.Params
		some(rng, func() {}, func() { p.Rate = 32000 }, func() { p.Depth = 20 }, func() { p.Channels = 1 + p.Channels%8 })()
		s.raw[n] = rawOf(t, p, rng.Intn(2) == 0, rng.Intn(3), randomSound(rng, p, 16)...)
	case 6:
		some(rng, func() { s.info.Total++ }, func() { s.info.Sum[rng.Intn(16)]++ }, func() { s.info.MinFrame, s.info.MaxFrame = 0, 12 }, func() { s.info.Depth = 4 + rng.Intn(29) })()
	case 7:
		for k, b := range s.behind {
			if b.Type == blocks.Seek && len(b.Data) > 0 {
				s.behind = slices.Clone(s.behind)
				s.behind[k] = blocks.Block{Type: blocks.Seek, Data: changed(b.Data, rng.Intn(len(b.Data)), byte(1<<rng.Intn(8)))}
			}
		}
	}
	return s
}

// reachesAll tells that each of some errors came often enough.
func reachesAll(t *testing.T, many map[api.Errno]int, least int, errors ...api.Errno) {
	t.Helper()
	for _, e := range errors {
		if many[e] < least {
			t.Errorf("error %d came %d times", int(e), many[e])
		}
	}
}

func TestReadsAnySheet(t *testing.T) {
	rng := rand.New(rand.NewSource(1))
	many := map[api.Errno]int{}
	for range 6000 {
		s := randomSheet(t, rng)
		s.reads(t, api.OK)
		for range 1 + rng.Intn(2) {
			if len(s.raw) > 0 {
				s = s.other(t, rng)
			}
		}
		b := s.bytesOf(t)
		_, e := stream.Read(b)
		many[e]++
		reads(t, e, b)
	}
	reachesAll(t, many, 20, api.OK, api.ErrSync, api.ErrNone, api.ErrOrder, api.ErrParam, api.ErrMD5, api.ErrForm, api.ErrRange, api.ErrEnd, api.ErrCode, api.ErrSum8, api.ErrSum16)
}

func TestReadsDamagedBytes(t *testing.T) {
	rng := rand.New(rand.NewSource(2))
	many := map[api.Errno]int{}
	for range 3000 {
		whole := randomSheet(t, rng).bytesOf(t)
		for range 5 {
			b := bytes.Clone(whole)
			for range 1 + rng.Intn(3) {
				at := some(rng, rng.Intn(len(b)), rng.Intn(min(len(b), 90)))
				b[at] = some(rng, b[at]^byte(1<<rng.Intn(8)), byte(rng.Intn(256)), 0, 255)
			}
			if rng.Intn(8) == 0 {
				b = b[:rng.Intn(len(b))]
			}
			_, e := stream.Read(b)
			many[e]++
			reads(t, e, b)
		}
	}
	reachesAll(t, many, 20, api.OK, api.ErrSync, api.ErrNone, api.ErrMany, api.ErrParam, api.ErrMD5, api.ErrForm, api.ErrRange, api.ErrEnd, api.ErrCode, api.ErrSum8, api.ErrSum16)
}

func TestReadsAnyBytes(t *testing.T) {
	rng := rand.New(rand.NewSource(3))
	for range 20000 {
		b := make([]byte, rng.Intn(60))
		rng.Read(b)
		copy(b, some(rng, "", "fLaC", "fLaC\x80\x00\x00\x22", "fLaC\x00\x00\x00\x22"))
		_, e := stream.Read(b)
		reads(t, e, b)
		if e == api.OK {
			t.Errorf("%x", b)
		}
	}
}
