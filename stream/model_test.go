package stream_test

import (
	"bytes"
	"crypto/md5"
	"encoding/binary"
	"fmt"
	"math"
	"math/rand"
	"reflect"
	"slices"
	"strings"
	"testing"

	"jetsam/api"
	"jetsam/blocks"
	"jetsam/frame"
	"jetsam/info"
	"jetsam/stream"
	"jetsam/tags"
)

// The tests hold the package against a model that reads all frames there are, finds all that is wrong with them, and then
// takes what is first. Digests are the library's; what one block, one frame, or an info is, packages below tell.

// plain is what most tests' streams are.
var plain = api.Params{Rate: 44100, Channels: 2, Depth: 16}

// farNumbers are none that anything may be.
var farNumbers = []int{math.MinInt, math.MinInt + 1, -1 << 32, -65536, -1, 1 << 20, 1 << 36, 1 << 62, math.MaxInt}

// part is a frame that is to be made: as so many samples, and by which Number.
type part struct {
	isVariable   bool
	number, size int
}

// sheet is what a stream's bytes are made of.
type sheet struct {
	info   info.Info
	behind []blocks.Block
	raw    [][]byte
}

// block is one of a Type, with Data.
func block(kind int, data string) blocks.Block {
	return blocks.Block{Type: kind, Data: []byte(data)}
}

// zeros is so many bytes 0.
func zeros(n int) string { return strings.Repeat("\x00", n) }

// waves is so many samples of channels that are not the same.
func waves(p api.Params, n int) [][]int {
	l := make([][]int, p.Channels)
	for i := range l {
		for k := range n {
			l[i] = append(l[i], (k*k+31*i*k+7*i)%(1<<p.Depth)-1<<(p.Depth-1))
		}
	}
	return l
}

// cut is the samples of channels from one on up to another.
func cut(l [][]int, from, to int) (k [][]int) {
	for _, c := range l {
		k = append(k, slices.Clone(c[from:to]))
	}
	return k
}

// rawOf is a frame's bytes.
func rawOf(t *testing.T, p api.Params, isVariable bool, number int, samples ...[]int) []byte {
	t.Helper()
	f, e := frame.Make(isVariable, number, p, samples...)
	if e != api.OK {
		t.Fatal(p, number, int(e))
	}
	b, e := frame.Write(f, p)
	if e != api.OK {
		t.Fatal(p, number, int(e))
	}
	return b
}

// sheetOf is a stream of frames, whose info tells nothing that may be left away.
func sheetOf(t *testing.T, p api.Params, parts ...part) sheet {
	t.Helper()
	total := 0
	for _, k := range parts {
		total += k.size
	}
	l := waves(p, total)
	s := sheet{info: info.Info{Params: p, MinBlock: 16, MaxBlock: 65535}}
	at := 0
	for _, k := range parts {
		s.raw = append(s.raw, rawOf(t, p, k.isVariable, k.number, cut(l, at, at+k.size)...))
		at += k.size
	}
	return s
}

// fixed is parts of a stream whose blocks are of one size, variable of one whose blocks are of several.
func fixed(sizes ...int) (l []part) {
	for n, size := range sizes {
		l = append(l, part{false, n, size})
	}
	return l
}

func variable(sizes ...int) (l []part) {
	at := 0
	for _, size := range sizes {
		l = append(l, part{true, at, size})
		at += size
	}
	return l
}

// with is a sheet with further blocks.
func (s sheet) with(l ...blocks.Block) sheet {
	s.behind = append(slices.Clone(s.behind), l...)
	return s
}

// blocksOf is all blocks of a sheet.
func (s sheet) blocksOf(t *testing.T) []blocks.Block {
	t.Helper()
	d, e := info.Write(s.info)
	if e != api.OK {
		t.Fatalf("%+v: error %d", s.info, int(e))
	}
	return append([]blocks.Block{{Type: blocks.Info, Data: d}}, s.behind...)
}

// bytesOf is a sheet's bytes, one behind the other.
func (s sheet) bytesOf(t *testing.T) []byte {
	t.Helper()
	return marked(t, s.blocksOf(t), s.raw...)
}

// marked is the Marker, blocks, and frames.
func marked(t *testing.T, l []blocks.Block, raw ...[]byte) []byte {
	t.Helper()
	b, e := blocks.Write(l...)
	if e != api.OK {
		t.Fatal(int(e))
	}
	return []byte("fLaC" + string(b) + string(slices.Concat(raw...)))
}

// pointsBlock is a Seek of points that may be.
func pointsBlock(t *testing.T, l ...blocks.Point) blocks.Block {
	t.Helper()
	b, e := blocks.WritePoints(l...)
	if e != api.OK {
		t.Fatal(l, int(e))
	}
	return blocks.Block{Type: blocks.Seek, Data: b}
}

// point is one, and kept a place that is kept.
func point(sample, offset, count int) blocks.Point {
	return blocks.Point{Sample: sample, Offset: offset, Count: count}
}

func kept() blocks.Point { return point(-1, 0, 0) }

// digestOf is the library's digest of samples.
func digestOf(depth int, channels ...[]int) [16]byte {
	d := md5.New()
	for k := 0; len(channels) > 0 && k < len(channels[0]); k++ {
		for _, l := range channels {
			b := binary.LittleEndian.AppendUint64(nil, uint64(l[k]))
			_, _ = d.Write(b[:(depth+7)/8])
		}
	}
	return [16]byte(d.Sum(nil))
}

// wrong is an error, and of which frame, and how many are named ahead of it.
type wrong struct {
	frame, rank int
	e           api.Errno
}

// firstOf is what is named first.
func firstOf(l []wrong) api.Errno {
	if len(l) == 0 {
		return api.OK
	}
	return slices.MinFunc(l, func(a, b wrong) int { return 10*(a.frame-b.frame) + a.rank - b.rank }).e
}

// framesOf is all frames that can be read, one behind the other, their bytes, and all that is wrong with them.
func framesOf(b []byte, p api.Params) (l []frame.Frame, raw [][]byte, w []wrong) {
	for len(b) > 0 {
		f, n, e := frame.Read(b, p)
		if e != api.OK {
			w = append(w, wrong{len(l), 0, e})
			break
		}
		l, raw, b = append(l, f), append(raw, bytes.Clone(b[:n])), b[n:]
	}
	samples := 0
	for n, f := range l {
		if f.Variable != l[0].Variable {
			w = append(w, wrong{n, 1, api.ErrParam})
		}
		if f.Number != map[bool]int{false: n, true: samples}[f.Variable] {
			w = append(w, wrong{n, 2, api.ErrOrder})
		}
		isLeast := slices.ContainsFunc(l[:n], func(k frame.Frame) bool { return k.Block != l[0].Block })
		if !f.Variable && (isLeast || f.Block > l[0].Block) {
			w = append(w, wrong{n, 3, api.ErrParam})
		}
		samples += f.Block
	}
	return l, raw, w
}

// blockError is what is wrong with one block's Data.
func blockError(k blocks.Block) (e api.Errno) {
	switch k.Type {
	case 3:
		_, e = blocks.Points(k.Data)
	case 4:
		_, e = tags.ReadComments(k.Data)
	case 5:
		_, e = tags.ReadCue(k.Data)
	case 6:
		_, e = tags.ReadPicture(k.Data)
	}
	return e
}

// isPlaced tells whether a point is where a frame is.
func isPlaced(p blocks.Point, s stream.Stream) bool {
	sample, offset := 0, 0
	for n, f := range s.Frames {
		if p == point(sample, offset, f.Block) {
			return true
		}
		sample, offset = sample+f.Block, offset+len(s.Raw[n])
	}
	return p.Sample == -1
}

// readOf is what Read has to answer.
func readOf(b []byte) (s stream.Stream, e api.Errno) {
	rest, isStream := strings.CutPrefix(string(b), "fLaC")
	if !isStream {
		return s, api.ErrSync
	}
	l, n, e := blocks.Read([]byte(rest))
	if e != api.OK {
		return s, e
	}
	if e := blocks.Order(l...); e != api.OK {
		return s, e
	}
	i, e := info.Read(l[0].Data)
	if e != api.OK {
		return s, e
	}
	for _, k := range l {
		if e := blockError(k); e != api.OK {
			return s, e
		}
	}
	frames, raw, w := framesOf([]byte(rest[n:]), i.Params)
	if e := firstOf(w); e != api.OK {
		return s, e
	}
	whole := stream.Stream{Info: i, Blocks: l, Frames: frames, Raw: raw}
	if e := wholeError(whole); e != api.OK {
		return s, e
	}
	return whole, api.OK
}

// wholeError is what is wrong with a stream in which nothing is wrong by itself.
func wholeError(s stream.Stream) api.Errno {
	var pieces []info.Piece
	var all [][]int
	for n, f := range s.Frames {
		pieces = append(pieces, info.Piece{Block: len(f.Samples[0]), Bytes: len(s.Raw[n])})
		for i, l := range f.Samples {
			if n == 0 {
				all = append(all, nil)
			}
			all[i] = slices.Concat(all[i], l)
		}
	}
	if len(pieces) == 0 {
		return api.ErrNone
	}
	if e := s.Info.Covers(pieces...); e != api.OK {
		return e
	}
	if s.Info.Sum != [16]byte{} && s.Info.Sum != digestOf(s.Info.Depth, all...) {
		return api.ErrMD5
	}
	for _, k := range s.Blocks {
		if k.Type == 3 {
			l, _ := blocks.Points(k.Data)
			if slices.ContainsFunc(l, func(p blocks.Point) bool { return !isPlaced(p, s) }) {
				return api.ErrForm
			}
		}
	}
	return api.OK
}

// same tells whether two streams have all the same.
func same(a, b stream.Stream) bool {
	sameBlock := func(a, b blocks.Block) bool { return a.Type == b.Type && bytes.Equal(a.Data, b.Data) }
	return a.Info == b.Info && slices.EqualFunc(a.Blocks, b.Blocks, sameBlock) &&
		slices.EqualFunc(a.Frames, b.Frames, frame.Same) && slices.EqualFunc(a.Raw, b.Raw, bytes.Equal)
}

// brief is the beginning of what a thing is as text.
func brief(x any) string { return fmt.Sprintf("%.300s", fmt.Sprintf("%+v", x)) }

// reads tells that Read answers what it has to.
func reads(t *testing.T, want api.Errno, b []byte) stream.Stream {
	t.Helper()
	b = append(bytes.Clone(b), 0xff, 0xf8, 0x5a)
	was := bytes.Clone(b)
	s, e := stream.Read(b[:len(b)-3])
	if !bytes.Equal(b, was) {
		t.Fatal("what was handed in is written into")
	}
	wantS, f := readOf(b[:len(b)-3])
	if !same(s, wantS) || e != want || f != want {
		t.Fatalf("%.80x: %s, error %d, not %s, error %d, %d", b, brief(s), int(e), brief(wantS), int(want), int(f))
	}
	if e != api.OK && !reflect.DeepEqual(s, stream.Stream{}) {
		t.Fatalf("error %d, and %s", int(e), brief(s))
	}
	return s
}

// reads tells that Read answers of a sheet what it has to.
func (s sheet) reads(t *testing.T, want api.Errno) stream.Stream {
	t.Helper()
	return reads(t, want, s.bytesOf(t))
}

// some is one of a list.
func some[T any](rng *rand.Rand, l ...T) T { return l[rng.Intn(len(l))] }

// randomSound is samples of any numbers a depth has, or of few of them.
func randomSound(rng *rand.Rand, p api.Params, n int) [][]int {
	l := make([][]int, p.Channels)
	half := 1 << (p.Depth - 1)
	for i := range l {
		reach := some(rng, 1, 1, 2, 4, half)
		for range n {
			l[i] = append(l[i], some(rng, max(-half, rng.Intn(2*reach)-reach), 0, some(rng, reach, half)-1))
		}
	}
	return l
}

// randomParams is parameters that an info may have.
func randomParams(rng *rand.Rand) api.Params {
	return api.Params{
		Rate:     some(rng, 1, 8000, 44100, 96000, 255000, 65535, 655350, 655351, 1048575, 1+rng.Intn(1048575)),
		Channels: some(rng, 1, 2, 2, 3, 8, 1+rng.Intn(8)),
		Depth:    some(rng, 4, 8, 12, 16, 24, 31, 32, 4+rng.Intn(29)),
	}
}

// randomSizes is how many samples frames of a stream have.
func randomSizes(rng *rand.Rand, isVariable bool, many int) (l []int) {
	first := some(rng, 16, 17, 32, 192, 16+rng.Intn(200))
	for range many - 1 {
		l = append(l, first)
		if isVariable {
			first = some(rng, 16, 192, 255, 256, 257, 16+rng.Intn(300))
		}
	}
	if isVariable {
		return append(l, some(rng, 1, 15, 16, 300))
	}
	return append(l, some(rng, 1, first, 1+rng.Intn(first)))
}
