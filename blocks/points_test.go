package blocks_test

import (
	"bytes"
	"math"
	"math/rand"
	"slices"
	"testing"

	"jetsam/api"
	"jetsam/blocks"
)

// P12.3.

func TestPointsByHand(t *testing.T) {
	for _, c := range []struct {
		l []blocks.Point
		s string
	}{
		{nil, ""},
		{[]blocks.Point{point(0, 0, 0)}, zeros(18)},
		{[]blocks.Point{kept(0, 0)}, "\xff\xff\xff\xff\xff\xff\xff\xff" + zeros(10)},
		{[]blocks.Point{kept(1, 2)}, "\xff\xff\xff\xff\xff\xff\xff\xff" + "\x00\x00\x00\x00\x00\x00\x00\x01" + "\x00\x02"},
		{[]blocks.Point{point(0x0102030405060708, 0x1112131415161718, 0x2122)}, "\x01\x02\x03\x04\x05\x06\x07\x08" + "\x11\x12\x13\x14\x15\x16\x17\x18" + "\x21\x22"},
		{[]blocks.Point{point(math.MaxInt, math.MaxInt, 65535)}, "\x7f\xff\xff\xff\xff\xff\xff\xff" + "\x7f\xff\xff\xff\xff\xff\xff\xff" + "\xff\xff"},
		{[]blocks.Point{point(0, 9, 1), point(1, 3, 1), kept(0, 0), kept(0, 0)}, zeros(15) + "\x09\x00\x01" + zeros(7) + "\x01" + zeros(7) + "\x03\x00\x01" + "\xff\xff\xff\xff\xff\xff\xff\xff" + zeros(10) + "\xff\xff\xff\xff\xff\xff\xff\xff" + zeros(10)},
	} {
		if b := writesPoints(t, api.OK, c.l...); string(b) != c.s {
			t.Errorf("%v: %x", c.l, b)
		}
		if l := readsPoints(t, api.OK, []byte(c.s)); !slices.Equal(l, c.l) {
			t.Errorf("%x: %v", c.s, l)
		}
	}
}

func TestPointsAreOf18Bytes(t *testing.T) {
	all := bytes.Repeat([]byte{255, 255, 255, 255, 255, 255, 255, 255, 0, 0, 0, 0, 0, 0, 0, 0, 0, 0}, 5)
	for n := range len(all) + 1 {
		want := api.ErrForm
		if n == 0 || n == 18 || n == 36 || n == 54 || n == 72 || n == 90 {
			want = api.OK
		}
		if l := readsPoints(t, want, all[:n]); want == api.OK && len(l)*18 != n {
			t.Error(n, len(l))
		}
	}
	readsPoints(t, api.OK, nil)
	// Told ahead of all else.
	for _, n := range []int{17, 19, 37} {
		readsPoints(t, api.ErrForm, append(rowsOf(row{1 << 63, 1 << 63, 0}, row{0, 0, 0}), all...)[:n])
	}
	readsPoints(t, api.ErrForm, append(rowsOf(row{7, 0, 0}, row{3, 0, 0}), 0))
}

func TestPointsThatMayBe(t *testing.T) {
	samples := []int{-1, 0, 1, 255, 1 << 31, 1 << 32, math.MaxInt - 1, math.MaxInt}
	offsets := []int{0, 1, 255, 1 << 31, 1 << 32, math.MaxInt - 1, math.MaxInt}
	counts := []int{0, 1, 255, 256, 65534, 65535}
	for _, s := range samples {
		for _, o := range offsets {
			for _, c := range counts {
				b := writesPoints(t, api.OK, point(s, o, c))
				readsPoints(t, api.OK, b)
			}
		}
	}
}

func TestPointsThatMayNotBe(t *testing.T) {
	for _, p := range []blocks.Point{point(-2, 0, 0), point(math.MinInt, 0, 0), point(0, -1, 0), point(0, -2, 0), point(0, math.MinInt, 0), point(0, 0, -1), point(0, 0, 65536), point(0, 0, math.MaxInt), point(0, 0, math.MinInt), point(0, 0, 1<<32), kept(-1, 0), kept(0, -1), kept(0, 65536), point(-2, -1, -1)} {
		writesPoints(t, api.ErrRange, p)
		writesPoints(t, api.ErrRange, kept(0, 0), p)
		writesPoints(t, api.ErrRange, p, kept(0, 0))
		// Told ahead of points that do not stand in order, wherever it stands.
		writesPoints(t, api.ErrRange, point(5, 0, 0), point(5, 0, 0), p)
		writesPoints(t, api.ErrRange, p, point(5, 0, 0), point(4, 0, 0))
		writesPoints(t, api.ErrRange, kept(0, 0), point(4, 0, 0), p, kept(0, 0))
	}
}

func TestReadsNumbersAbove63Bits(t *testing.T) {
	for _, x := range []uint64{1 << 63, 1<<63 + 1, all64 - 1, all64 - 255, 0xff00 << 48} {
		readsPoints(t, api.ErrRange, rowsOf(row{x, 0, 0}))
		readsPoints(t, api.ErrRange, rowsOf(row{0, x, 0}))
		readsPoints(t, api.ErrRange, rowsOf(row{all64, x, 0}))
		readsPoints(t, api.ErrRange, rowsOf(row{0, 0, 0}, row{1, 0, 0}, row{x, 0, 0}))
		// Told ahead of points that do not stand in order, wherever it stands.
		readsPoints(t, api.ErrRange, rowsOf(row{5, 0, 0}, row{5, 0, 0}, row{x, 0, 0}))
		readsPoints(t, api.ErrRange, rowsOf(row{5, 0, 0}, row{4, x, 0}, row{6, 0, 0}))
		readsPoints(t, api.ErrRange, rowsOf(row{x, 0, 0}, row{4, 0, 0}, row{3, 0, 0}))
		readsPoints(t, api.ErrRange, rowsOf(row{all64, 0, 0}, row{4, 0, 0}, row{4, x, 0}))
	}
	// An Offset of all 255 is no place that is kept.
	readsPoints(t, api.ErrRange, rowsOf(row{0, all64, 0}))
	readsPoints(t, api.ErrRange, rowsOf(row{all64, all64, 65535}))
}

func TestPointsInOrder(t *testing.T) {
	for _, c := range []struct {
		e       api.Errno
		samples []int
	}{
		{api.OK, []int{0, 1}},
		{api.OK, []int{0, math.MaxInt}},
		{api.OK, []int{math.MaxInt - 1, math.MaxInt}},
		{api.OK, []int{0, 1, 2, 3, 100, 1 << 40}},
		{api.ErrOrder, []int{0, 0}},
		{api.ErrOrder, []int{1, 0}},
		{api.ErrOrder, []int{math.MaxInt, math.MaxInt}},
		{api.ErrOrder, []int{math.MaxInt, 0}},
		{api.ErrOrder, []int{1 << 40, 1}},
		{api.ErrOrder, []int{0, 1, 2, 2}},
		{api.ErrOrder, []int{0, 5, 4, 6}},
		{api.ErrOrder, []int{3, 5, 4, 6, 7, 8}},
		{api.ErrOrder, []int{9, 5, 6, 7, 8}},
		{api.ErrOrder, []int{0, 9, 1, 10}},
		{api.OK, []int{-1}},
		{api.OK, []int{-1, -1}},
		{api.OK, []int{-1, -1, -1, -1, -1}},
		{api.OK, []int{0, -1}},
		{api.OK, []int{0, 1, -1, -1}},
		{api.ErrOrder, []int{-1, 0}},
		{api.ErrOrder, []int{-1, 5}},
		{api.ErrOrder, []int{0, -1, 1}},
		{api.ErrOrder, []int{0, -1, -1, 1}},
		{api.ErrOrder, []int{0, -1, 1, -1}},
		{api.ErrOrder, []int{7, 7, -1}},
		{api.ErrOrder, []int{7, -1, 7}},
		{api.ErrOrder, []int{7, -1, 3, 4}},
	} {
		var l []blocks.Point
		var rows []row
		for n, s := range c.samples {
			// Their Offsets may stand in any order.
			l = append(l, point(s, 1000-n*n*37, n%2))
			rows = append(rows, row{uint64(s), uint64(1000 - n*n*37), uint16(n % 2)})
		}
		writesPoints(t, c.e, l...)
		readsPoints(t, c.e, rowsOf(rows...))
	}
}

func TestAsManyPointsAsABlockHas(t *testing.T) {
	l := make([]blocks.Point, 932070)
	for n := range l {
		l[n] = point(n, n, n%65536)
	}
	b := writesPoints(t, api.OK, l[:932067]...)
	if len(b) != 932067*18 || len(b) > blocks.MaxData {
		t.Error(len(b))
	}
	readsPoints(t, api.OK, b)
	writes(t, api.OK, blocks.Block{Type: blocks.Seek, Data: b})
	writesPoints(t, api.ErrFull, l[:932068]...)
	writesPoints(t, api.ErrFull, l...)
	// What is wrong with the points is told ahead of it.
	l[932069].Sample = 932068
	writesPoints(t, api.ErrOrder, l...)
	l[932069].Offset = -1
	writesPoints(t, api.ErrRange, l...)
	// Places that are kept count too.
	for n := range l {
		l[n] = kept(n, 0)
	}
	writesPoints(t, api.OK, l[:932067]...)
	writesPoints(t, api.ErrFull, l[:932068]...)
}

func TestReadsMorePointsThanABlockHas(t *testing.T) {
	// No promise tells of a greatest number of points that are read.
	b := bytes.Repeat(rowsOf(row{all64, 3, 4}), 932068)
	l := readsPoints(t, api.OK, b)
	if len(l) != 932068 || l[932067] != kept(3, 4) {
		t.Error(len(l))
	}
}

func TestReadsAnyRows(t *testing.T) {
	rng := rand.New(rand.NewSource(7))
	told := map[api.Errno]int{}
	for range 60000 {
		l := make([]row, rng.Intn(5))
		for n := range l {
			l[n] = row{uint64(n*5 + rng.Intn(7)), uint64(rng.Intn(9)), uint16(rng.Intn(1 << 16))}
			switch rng.Intn(12) {
			case 0:
				l[n].Sample = uint64(some(rng, math.MinInt, -2, math.MaxInt))
			case 1:
				l[n].Offset = uint64(some(rng, math.MinInt, -1, math.MaxInt))
			case 2, 3:
				l[n].Sample = all64
			}
		}
		b := rowsOf(l...)
		if rng.Intn(8) == 0 {
			b = b[:rng.Intn(len(b)+1)]
		}
		_, want := pointsOf(b)
		readsPoints(t, want, b)
		told[want]++
	}
	for _, e := range []api.Errno{api.OK, api.ErrForm, api.ErrRange, api.ErrOrder} {
		if told[e] < 1000 {
			t.Error(told)
		}
	}
}

func TestWritesAnyPoints(t *testing.T) {
	rng := rand.New(rand.NewSource(8))
	told := map[api.Errno]int{}
	for range 60000 {
		l := make([]blocks.Point, rng.Intn(5))
		for n := range l {
			l[n] = point(n*5+rng.Intn(7), rng.Intn(9), rng.Intn(1<<16))
			switch rng.Intn(15) {
			case 0:
				l[n].Sample = some(rng, math.MinInt, -2, math.MaxInt)
			case 1:
				l[n].Offset = some(rng, math.MinInt, -1, math.MaxInt)
			case 2:
				l[n].Count = some(rng, math.MinInt, -1, 65535, 65536, math.MaxInt)
			case 3, 4:
				l[n].Sample = -1
			}
		}
		_, want := writtenPointsOf(l)
		writesPoints(t, want, l...)
		told[want]++
	}
	for _, e := range []api.Errno{api.OK, api.ErrRange, api.ErrOrder} {
		if told[e] < 1000 {
			t.Error(told)
		}
	}
}
