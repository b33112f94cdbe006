package blocks_test

import (
	"bytes"
	"math"
	"math/rand"
	"testing"

	"jetsam/api"
	"jetsam/blocks"
)

// P12.1, Write.

func TestNumbersOfTypes(t *testing.T) {
	for want, n := range []int{blocks.Info, blocks.Padding, blocks.App, blocks.Seek, blocks.Comment, blocks.Cue, blocks.Picture} {
		if n != want {
			t.Error(n, want)
		}
	}
	if blocks.Forbidden != 127 || blocks.MaxData != 16777215 || blocks.None != -1 {
		t.Error(blocks.Forbidden, blocks.MaxData, blocks.None)
	}
}

func TestWritesByHand(t *testing.T) {
	for _, c := range []struct {
		l []blocks.Block
		s string
	}{
		{[]blocks.Block{block(1, "\x00\x00")}, "\x81\x00\x00\x02\x00\x00"},
		{[]blocks.Block{block(0, "")}, "\x80\x00\x00\x00"},
		{[]blocks.Block{block(126, "")}, "\xfe\x00\x00\x00"},
		{[]blocks.Block{block(126, ""), block(126, "a")}, "\x7e\x00\x00\x00\xfe\x00\x00\x01a"},
		{[]blocks.Block{block(2, "name"), block(0, "x"), block(4, "")}, "\x02\x00\x00\x04name\x00\x00\x00\x01x\x84\x00\x00\x00"},
	} {
		if b := writes(t, api.OK, c.l...); string(b) != c.s {
			t.Errorf("%v: %x", c.l, b)
		}
		if l, n := reads(t, api.OK, []byte(c.s)); !sameBlocks(l, c.l) || n != len(c.s) {
			t.Errorf("%x: %v, %d", c.s, l, n)
		}
	}
}

func TestNoBlocksAreNotWritten(t *testing.T) {
	writes(t, api.ErrNone)
	writes(t, api.ErrNone, []blocks.Block{}...)
}

func TestWritesTypesFrom0To126(t *testing.T) {
	for kind := -130; kind < 400; kind++ {
		want := api.ErrCode
		if kind >= 0 && kind <= 126 {
			want = api.OK
		}
		writes(t, want, block(kind, "abc"))
		writes(t, want, block(kind, ""), block(1, ""))
		writes(t, want, block(1, ""), block(kind, "abc"), block(6, "x"))
		writes(t, want, block(1, ""), block(6, "x"), block(kind, ""))
	}
	for _, kind := range append([]int{1 << 8, 1 << 31, 1 << 32, 1<<56 + 1, math.MaxInt}, farNumbers...) {
		writes(t, api.ErrCode, block(kind, ""))
	}
}

func TestWritesHowManyBytesDataHas(t *testing.T) {
	data := bytes.Repeat([]byte{1, 2, 3}, (1<<24)/3+1)
	for _, n := range []int{0, 1, 2, 127, 128, 255, 256, 257, 65535, 65536, 65537, 1<<24 - 2, 1<<24 - 1} {
		b := writes(t, api.OK, blocks.Block{Type: 9, Data: data[:n]})
		if want := []byte{137, byte(n / 65536), byte(n / 256 % 256), byte(n % 256)}; !bytes.Equal(b[:4], want) || len(b) != n+4 {
			t.Error(n, b[:4], len(b))
		}
		reads(t, api.OK, b)
	}
}

func TestDataOfTooManyBytesAreNotWritten(t *testing.T) {
	long := blocks.Block{Type: 6, Data: make([]byte, 1<<24)}
	writes(t, api.ErrFull, long)
	writes(t, api.ErrFull, block(0, "a"), long)
	writes(t, api.ErrFull, long, block(0, "a"))
	most := blocks.Block{Type: 6, Data: long.Data[:1<<24-1]}
	writes(t, api.OK, most, most)
	writes(t, api.ErrFull, most, long, most)
	if b, e := blocks.Write(blocks.Block{Type: 6, Data: make([]byte, 1<<25)}); len(b) != 0 || e != api.ErrFull {
		t.Error(len(b), int(e))
	}
}

func TestTheFirstBlockThatIsWrongCounts(t *testing.T) {
	data := make([]byte, 1<<24)
	long := blocks.Block{Type: 6, Data: data}
	both := blocks.Block{Type: 127, Data: data}
	coded := block(127, "")
	writes(t, api.ErrCode, both)
	writes(t, api.ErrCode, both, long)
	writes(t, api.ErrFull, long, both)
	writes(t, api.ErrFull, long, coded)
	writes(t, api.ErrCode, coded, long)
	writes(t, api.ErrFull, block(1, ""), long, coded)
	writes(t, api.ErrCode, block(1, ""), coded, long)
}

func TestTheLastOneAloneIsToldToBe(t *testing.T) {
	rng := rand.New(rand.NewSource(1))
	for many := 1; many < 300; many++ {
		l := randomBlocks(rng, many)
		b := writes(t, api.OK, l...)
		for n, k := range l {
			if last := b[0] >= 128; last != (n == many-1) || int(b[0]%128) != k.Type {
				t.Fatal(many, n, b[0], k.Type)
			}
			b = b[4+len(k.Data):]
		}
		if len(b) != 0 {
			t.Fatal(many, len(b))
		}
	}
}

func TestWrittenBytesAreTheCallers(t *testing.T) {
	data := []byte("abcdef")
	l := []blocks.Block{{Type: 2, Data: data[:3]}, {Type: 3, Data: data[3:]}}
	b := writes(t, api.OK, l...)
	was := bytes.Clone(b)
	clear(data)
	if !bytes.Equal(b, was) {
		t.Error("what was written changed with what was handed in")
	}
	copy(data, "abcdef")
	for n := range b {
		b[n] = 7
	}
	if string(data) != "abcdef" {
		t.Error("what was handed in changed with what was written")
	}
}
