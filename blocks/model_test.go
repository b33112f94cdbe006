package blocks_test

import (
	"bytes"
	"encoding/binary"
	"fmt"
	"io"
	"math"
	"math/rand"
	"slices"
	"strings"
	"testing"

	"jetsam/api"
	"jetsam/blocks"
)

// The tests hold the package against a head as one number of 32 bits, against types as letters of a text, and against
// points as three numbers that the library takes out of bytes.

// farNumbers are none that anything may be.
var farNumbers = []int{math.MinInt, math.MinInt + 1, -1 << 32, -1 << 24, -65536, -256, -128, -2}

// block is one of a Type, with Data.
func block(kind int, data string) blocks.Block {
	return blocks.Block{Type: kind, Data: []byte(data)}
}

// zeros is so many bytes 0.
func zeros(n int) string { return strings.Repeat("\x00", n) }

// info is the block that comes first.
func info() blocks.Block { return block(blocks.Info, zeros(34)) }

// brief is the beginning of what a list is as text.
func brief(l any) string {
	return fmt.Sprintf("%.300s", fmt.Sprint(l))
}

// sameBlocks tells whether two lists have the same blocks.
func sameBlocks(a, b []blocks.Block) bool {
	return slices.EqualFunc(a, b, func(a, b blocks.Block) bool {
		return a.Type == b.Type && bytes.Equal(a.Data, b.Data)
	})
}

// cloned is a list that shares nothing with another.
func cloned(l []blocks.Block) (k []blocks.Block) {
	for _, b := range l {
		k = append(k, blocks.Block{Type: b.Type, Data: bytes.Clone(b.Data)})
	}
	return k
}

// untouched tells, once a call was made, that it wrote neither into what it was handed nor behind it.
func untouched(t *testing.T, b []byte) func() {
	t.Helper()
	whole := b[:cap(b)]
	was := bytes.Clone(whole)
	return func() {
		t.Helper()
		if !bytes.Equal(whole, was) {
			t.Fatal("what was handed in is written into")
		}
	}
}

// roomy is bytes with others behind their length.
func roomy(b []byte) []byte {
	return append(bytes.Clone(b), 0xa5, 0x5a, 0xff)[:len(b)]
}

// writtenOf is what Write has to answer.
func writtenOf(l []blocks.Block) (b []byte, e api.Errno) {
	if len(l) == 0 {
		return nil, api.ErrNone
	}
	for n, k := range l {
		if k.Type < 0 || 126 < k.Type {
			return nil, api.ErrCode
		}
		if len(k.Data) >= 1<<24 {
			return nil, api.ErrFull
		}
		head := uint32(k.Type)<<24 + uint32(len(k.Data))
		if n+1 == len(l) {
			head += 1 << 31
		}
		b = append(binary.BigEndian.AppendUint32(b, head), k.Data...)
	}
	return b, api.OK
}

// readOf is what Read has to answer.
func readOf(b []byte) (l []blocks.Block, n int, e api.Errno) {
	r := bytes.NewReader(b)
	for {
		var head uint32
		if binary.Read(r, binary.BigEndian, &head) != nil {
			return nil, 0, api.ErrEnd
		}
		data, _ := io.ReadAll(io.LimitReader(r, int64(head%(1<<24))))
		if len(data) < int(head%(1<<24)) {
			return nil, 0, api.ErrEnd
		}
		kind := int(head >> 24 % 128)
		if kind == 127 {
			return nil, 0, api.ErrCode
		}
		l = append(l, blocks.Block{Type: kind, Data: data})
		if head >= 1<<31 {
			return l, len(b) - r.Len(), api.OK
		}
	}
}

// orderOf is what Order has to answer.
func orderOf(l []blocks.Block) api.Errno {
	kinds := ""
	shapes := api.OK
	for _, k := range l {
		letter := "?"
		if k.Type >= 0 && k.Type < 5 {
			letter = "ipask"[k.Type : k.Type+1]
		}
		kinds += letter
		if letter == "p" && string(k.Data) != zeros(len(k.Data)) || letter == "a" && len(k.Data) <= 3 || letter == "s" && len(k.Data)/18*18 < len(k.Data) {
			shapes = api.ErrForm
		}
	}
	switch {
	case !strings.HasPrefix(kinds, "i"):
		return api.ErrNone
	case strings.Count(kinds, "i") > 1 || strings.Count(kinds, "s") > 1 || strings.Count(kinds, "k") > 1:
		return api.ErrMany
	case len(l[0].Data) != 34:
		return api.ErrRange
	}
	return shapes
}

// writes tells that Write answers what it has to.
func writes(t *testing.T, want api.Errno, l ...blocks.Block) []byte {
	t.Helper()
	was := cloned(l)
	b, e := blocks.Write(l...)
	wantB, f := writtenOf(l)
	if !bytes.Equal(b, wantB) || e != want || f != want {
		t.Fatalf("%s: %.80x, error %d, not %.80x, error %d", brief(l), b, int(e), wantB, int(want))
	}
	if !sameBlocks(l, was) {
		t.Fatal("what was handed in is written into")
	}
	return b
}

// reads tells that Read answers what it has to.
func reads(t *testing.T, want api.Errno, b []byte) ([]blocks.Block, int) {
	t.Helper()
	b = roomy(b)
	check := untouched(t, b)
	l, n, e := blocks.Read(b)
	check()
	wantL, wantN, f := readOf(b)
	if !sameBlocks(l, wantL) || n != wantN || e != want || f != want {
		t.Fatalf("%.80x: %s, %d, error %d, not %s, %d, error %d", b, brief(l), n, int(e), brief(wantL), wantN, int(want))
	}
	return l, n
}

// orders tells that Order answers an error, or OK.
func orders(t *testing.T, want api.Errno, l ...blocks.Block) {
	t.Helper()
	was := cloned(l)
	if e := blocks.Order(l...); e != want || orderOf(l) != want {
		t.Fatalf("%s: error %d, not %d", brief(l), int(e), int(want))
	}
	if !sameBlocks(l, was) {
		t.Fatal("what was handed in is written into")
	}
}

// point is one, and kept a place that is kept.
func point(sample, offset, count int) blocks.Point {
	return blocks.Point{Sample: sample, Offset: offset, Count: count}
}

func kept(offset, count int) blocks.Point { return point(-1, offset, count) }

// row is 18 bytes of points.
type row struct {
	Sample, Offset uint64
	Count          uint16
}

// rowsOf is the bytes of rows, whatever these are.
func rowsOf(l ...row) []byte {
	w := &bytes.Buffer{}
	_ = binary.Write(w, binary.BigEndian, l)
	return w.Bytes()
}

// all64 is the Sample of a place that is kept, as it stands in bytes.
const all64 = math.MaxUint64

// orderOfPoints is whether points stand in order: those that are kept behind all others, and these one above another.
func orderOfPoints(l []blocks.Point) bool {
	var samples []int
	for n, p := range l {
		if p.Sample != -1 {
			samples = append(samples, p.Sample)
			if len(samples) != n+1 {
				return false
			}
		}
	}
	sorted := slices.Clone(samples)
	slices.Sort(sorted)
	return slices.Equal(slices.Compact(sorted), samples)
}

// pointsOf is what Points has to answer.
func pointsOf(b []byte) (l []blocks.Point, e api.Errno) {
	rows := make([]row, len(b)/18)
	if binary.Size(rows) != len(b) {
		return nil, api.ErrForm
	}
	_ = binary.Read(bytes.NewReader(b), binary.BigEndian, rows)
	for _, r := range rows {
		if r.Sample > math.MaxInt64 && r.Sample != all64 || r.Offset > math.MaxInt64 {
			return nil, api.ErrRange
		}
		l = append(l, point(int(r.Sample), int(r.Offset), int(r.Count)))
	}
	if !orderOfPoints(l) {
		return nil, api.ErrOrder
	}
	return l, api.OK
}

// writtenPointsOf is what WritePoints has to answer.
func writtenPointsOf(l []blocks.Point) ([]byte, api.Errno) {
	rows := make([]row, len(l))
	for n, p := range l {
		if p.Sample < -1 || p.Offset < 0 || p.Count < 0 || p.Count > 65535 {
			return nil, api.ErrRange
		}
		rows[n] = row{uint64(p.Sample), uint64(p.Offset), uint16(p.Count)}
	}
	if !orderOfPoints(l) {
		return nil, api.ErrOrder
	}
	if len(l) > 932067 {
		return nil, api.ErrFull
	}
	return rowsOf(rows...), api.OK
}

// readsPoints tells that Points answers what it has to.
func readsPoints(t *testing.T, want api.Errno, b []byte) []blocks.Point {
	t.Helper()
	b = roomy(b)
	check := untouched(t, b)
	l, e := blocks.Points(b)
	check()
	wantL, f := pointsOf(b)
	if !slices.Equal(l, wantL) || e != want || f != want {
		t.Fatalf("%.80x: %s, error %d, not %s, error %d", b, brief(l), int(e), brief(wantL), int(want))
	}
	return l
}

// writesPoints tells that WritePoints answers what it has to.
func writesPoints(t *testing.T, want api.Errno, l ...blocks.Point) []byte {
	t.Helper()
	was := slices.Clone(l)
	b, e := blocks.WritePoints(l...)
	wantB, f := writtenPointsOf(l)
	if !bytes.Equal(b, wantB) || e != want || f != want {
		t.Fatalf("%s: %.80x, error %d, not %.80x, error %d", brief(l), b, int(e), wantB, int(want))
	}
	if !slices.Equal(l, was) {
		t.Fatal("what was handed in is written into")
	}
	return b
}

// some is one of a list.
func some(rng *rand.Rand, l ...int) int { return l[rng.Intn(len(l))] }

// randomBlocks are blocks that may be written; those at the edges are among them.
func randomBlocks(rng *rand.Rand, many int) []blocks.Block {
	l := make([]blocks.Block, many)
	for n := range l {
		l[n].Type = some(rng, 0, 1, 2, 3, 4, 5, 6, 7, 126, rng.Intn(127))
		l[n].Data = make([]byte, some(rng, 0, 1, 3, 4, 18, 34, 255, 256, rng.Intn(600)))
		rng.Read(l[n].Data)
	}
	return l
}

// randomBytes are bytes like those of blocks, of which some are none's.
func randomBytes(rng *rand.Rand) (b []byte) {
	for range rng.Intn(5) {
		n := some(rng, 0, 0, 1, 2, 18, rng.Intn(40))
		kind := some(rng, 0, 1, 2, 126, 128, 130, 254, rng.Intn(256), 127, 255)
		b = append(b, byte(kind), 0, byte(some(rng, 0, 0, 0, 0, 0, 0, 0, 0, 0, 1)), byte(n))
		data := make([]byte, max(0, n+some(rng, 0, 0, 0, 0, 0, -1, 1, -n)))
		rng.Read(data)
		b = append(b, data...)
	}
	return append(b, make([]byte, rng.Intn(3))...)
}

// randomPoints are points that may be written; those at the edges are among them.
func randomPoints(rng *rand.Rand, many, keep int) (l []blocks.Point) {
	var samples []int
	for range many {
		samples = append(samples, some(rng, 0, 1, math.MaxInt-1, math.MaxInt, rng.Int(), rng.Intn(1<<16), 1<<rng.Intn(63)))
	}
	slices.Sort(samples)
	samples = append(slices.Compact(samples), slices.Repeat([]int{-1}, keep)...)
	for _, n := range samples {
		offset := some(rng, 0, 1, math.MaxInt-1, math.MaxInt, rng.Int(), rng.Intn(1<<16))
		l = append(l, point(n, offset, some(rng, 0, 1, 255, 256, 65534, 65535, rng.Intn(1<<16))))
	}
	return l
}
