package info_test

import (
	"bytes"
	"math"
	"math/rand"
	"slices"
	"strconv"
	"strings"
	"testing"

	"jetsam/api"
	"jetsam/info"
)

// The tests hold the package against infos as texts of 0 and 1, put together and taken apart as the chapter's words go,
// and against pieces whose numbers are sorted.

// farNumbers are none that anything may be.
var farNumbers = []int{math.MinInt, math.MinInt + 1, -1 << 36, -1 << 32, -1 << 24, -65536, -16, 1 << 37, 1<<40 + 16, 1<<48 + 1, math.MaxInt - 1, math.MaxInt}

// number is one of an info: from the least to the greatest that it may be, in so many bits, less a number.
type number struct {
	name        string
	of          func(i *info.Info) *int
	least, most int
	bits, less  int
}

// numbers are all of an info, in the order in which they are written.
var numbers = []number{
	{"MinBlock", func(i *info.Info) *int { return &i.MinBlock }, 16, 65535, 16, 0},
	{"MaxBlock", func(i *info.Info) *int { return &i.MaxBlock }, 16, 65535, 16, 0},
	{"MinFrame", func(i *info.Info) *int { return &i.MinFrame }, 0, 16777215, 24, 0},
	{"MaxFrame", func(i *info.Info) *int { return &i.MaxFrame }, 0, 16777215, 24, 0},
	{"Rate", func(i *info.Info) *int { return &i.Rate }, 1, 1048575, 20, 0},
	{"Channels", func(i *info.Info) *int { return &i.Channels }, 1, 8, 3, 1},
	{"Depth", func(i *info.Info) *int { return &i.Depth }, 4, 32, 5, 1},
	{"Total", func(i *info.Info) *int { return &i.Total }, 0, 68719476735, 36, 0},
}

// plain is an info in which nothing is wrong.
func plain() info.Info {
	return info.Info{Params: api.Params{Rate: 44100, Channels: 2, Depth: 16}, MinBlock: 4096, MaxBlock: 4608, MinFrame: 14, MaxFrame: 70000, Total: 1 << 35, Sum: [16]byte{7: 9}}
}

// wide is an info of which each number alone may be turned into all that it may be.
func wide() info.Info {
	return info.Info{Params: api.Params{Rate: 1, Channels: 1, Depth: 4}, MinBlock: 16, MaxBlock: 65535}
}

// with is an info of which one number is another.
func with(i info.Info, n number, x int) info.Info {
	*n.of(&i) = x
	return i
}

// checkOf is what is wrong with an info.
func checkOf(i info.Info) api.Errno {
	for _, n := range numbers {
		if x := *n.of(&i); x < n.least || x > n.most {
			return api.ErrRange
		}
	}
	if i.MinBlock > i.MaxBlock || i.MinFrame > i.MaxFrame && i.MaxFrame > 0 {
		return api.ErrRange
	}
	return api.OK
}

// digits is a number's n digits.
func digits(n, v int) string {
	s := strconv.FormatInt(int64(v), 2)
	return strings.Repeat("0", n-len(s)) + s
}

// writtenOf is the bytes of an info, whose numbers fit their bits.
func writtenOf(i info.Info) []byte {
	s := ""
	for _, n := range numbers {
		s += digits(n.bits, *n.of(&i)-n.less)
	}
	var b []byte
	for ; s != ""; s = s[8:] {
		v, _ := strconv.ParseUint(s[:8], 2, 8)
		b = append(b, byte(v))
	}
	return append(b, i.Sum[:]...)
}

// readOf is what 34 bytes have to be read as, whether it may be or not.
func readOf(b []byte) (i info.Info) {
	s := ""
	for _, v := range b {
		s += digits(8, int(v))
	}
	for _, n := range numbers {
		v, _ := strconv.ParseInt(s[:n.bits], 2, 64)
		*n.of(&i), s = int(v)+n.less, s[n.bits:]
	}
	for k := range i.Sum {
		i.Sum[k] = b[len(b)-16+k]
	}
	return i
}

// checks tells that Check answers what it has to, and Write too, or bytes; and that these are read again.
func checks(t *testing.T, i info.Info) {
	t.Helper()
	want := checkOf(i)
	if e := info.Check(i); e != want {
		t.Fatalf("%+v: error %d, not %d", i, int(e), int(want))
	}
	b, e := info.Write(i)
	if want != api.OK {
		if len(b) != 0 || e != want {
			t.Fatalf("%+v: written: %x, error %d, not %d", i, b, int(e), int(want))
		}
		return
	}
	if !bytes.Equal(b, writtenOf(i)) || e != api.OK {
		t.Fatalf("%+v: written: %x, error %d, not %x", i, b, int(e), writtenOf(i))
	}
	reads(t, b, i, api.OK)
}

// reads tells that Read answers an info, or an error alone.
func reads(t *testing.T, b []byte, want info.Info, e api.Errno) {
	t.Helper()
	if i, f := info.Read(b); i != want || f != e {
		t.Fatalf("%x: %+v, error %d, not %+v, error %d", b, i, int(f), want, int(e))
	}
}

// some is one of a list.
func some(rng *rand.Rand, l ...int) int { return l[rng.Intn(len(l))] }

// randomSum is a sum, of which some are all 0 and many have but one byte that is not.
func randomSum(rng *rand.Rand) (sum [16]byte) {
	switch rng.Intn(3) {
	case 0:
		sum[rng.Intn(16)] = byte(1 + rng.Intn(255))
	case 1:
		rng.Read(sum[:])
	}
	return sum
}

// randomInfo is one that may be; numbers at the edges are among its numbers.
func randomInfo(rng *rand.Rand) info.Info {
	for {
		i := info.Info{Sum: randomSum(rng)}
		for _, n := range numbers {
			*n.of(&i) = some(rng, n.least, n.most, n.least+1, n.most-1, n.least+rng.Intn(n.most-n.least+1), n.least+rng.Intn(n.most-n.least+1))
		}
		if i.MinBlock <= i.MaxBlock && (i.MinFrame <= i.MaxFrame || i.MaxFrame == 0) {
			return i
		}
	}
}

// piece is a frame's samples and bytes.
func piece(block, size int) info.Piece { return info.Piece{Block: block, Bytes: size} }

// blocksOf and sizesOf are the numbers of pieces, as they come.
func blocksOf(l []info.Piece) (blocks []int) {
	for _, p := range l {
		blocks = append(blocks, p.Block)
	}
	return blocks
}

func sizesOf(l []info.Piece) (sizes []int) {
	for _, p := range l {
		sizes = append(sizes, p.Bytes)
	}
	return sizes
}

// sumOf is the sum of numbers.
func sumOf(l []int) (n int) {
	for _, x := range l {
		n += x
	}
	return n
}

// ofOf is what Of has to answer.
func ofOf(p api.Params, sum [16]byte, l []info.Piece) info.Info {
	i := info.Info{Params: p, MinBlock: 16, MaxBlock: 16, Sum: sum}
	if len(l) == 0 {
		return i
	}
	blocks, sizes := blocksOf(l), sizesOf(l)
	i.Total = sumOf(blocks)
	last := blocks[len(blocks)-1]
	if len(blocks) > 1 {
		blocks = blocks[:len(blocks)-1]
	}
	slices.Sort(blocks)
	slices.Sort(sizes)
	i.MinBlock = max(16, blocks[0])
	i.MaxBlock = max(16, blocks[len(blocks)-1], last)
	if n := sizes[0]; n < 1<<24 {
		i.MinFrame = n
	}
	if n := sizes[len(sizes)-1]; n < 1<<24 {
		i.MaxFrame = n
	}
	return i
}

// coversOf is what Covers has to answer.
func coversOf(i info.Info, l []info.Piece) api.Errno {
	if len(l) == 0 {
		return api.ErrNone
	}
	wrong := i.Total != 0 && sumOf(blocksOf(l)) != i.Total
	for k, p := range l {
		wrong = wrong || p.Block > i.MaxBlock
		wrong = wrong || k < len(l)-1 && p.Block < i.MinBlock
		wrong = wrong || i.MinFrame != 0 && p.Bytes < i.MinFrame
		wrong = wrong || i.MaxFrame != 0 && p.Bytes > i.MaxFrame
	}
	if wrong {
		return api.ErrParam
	}
	return api.OK
}

// ofs tells that Of answers what it has to, and what that is.
func ofs(t *testing.T, p api.Params, sum [16]byte, l ...info.Piece) info.Info {
	t.Helper()
	i, want := info.Of(p, sum, l...), ofOf(p, sum, l)
	if i != want {
		t.Fatalf("%+v, %x, %.60v: %+v, not %+v", p, sum, l, i, want)
	}
	return i
}

// covers tells that Covers answers an error, or OK.
func covers(t *testing.T, want api.Errno, i info.Info, l ...info.Piece) {
	t.Helper()
	if e := i.Covers(l...); e != want || e != coversOf(i, l) {
		t.Fatalf("%+v, %.60v: error %d, not %d", i, l, int(e), int(want))
	}
}

// randomPieces are pieces of a stream that may be; those at the edges are among them.
func randomPieces(rng *rand.Rand, many int) []info.Piece {
	l := make([]info.Piece, many)
	block := some(rng, 16, 17, 192, 4096, 65535)
	for k := range l {
		if rng.Intn(3) == 0 {
			block = some(rng, 16, 17, 65534, 65535, 16+rng.Intn(65520))
		}
		l[k] = piece(block, some(rng, 1, 2, 1<<24-2, 1<<24-1, 1<<24, 1<<24+1, 1+rng.Intn(1000), 1+rng.Intn(1<<24)))
	}
	if many > 0 {
		l[many-1].Block = some(rng, block, 1, 15, 16, 65535, 1+rng.Intn(65535))
	}
	return l
}
