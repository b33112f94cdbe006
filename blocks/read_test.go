package blocks_test

import (
	"bytes"
	"math/rand"
	"testing"

	"jetsam/api"
	"jetsam/blocks"
)

// P12.1, Read.

func TestReadsOneBlockTwoAndMany(t *testing.T) {
	rng := rand.New(rand.NewSource(2))
	for _, many := range []int{1, 2, 3, 10, 1000} {
		want := randomBlocks(rng, many)
		b, _ := writtenOf(want)
		l, n := reads(t, api.OK, b)
		if !sameBlocks(l, want) || n != len(b) {
			t.Error(many, n, len(b))
		}
	}
}

func TestWhatStandsBehindTheLastOneDoesNotCount(t *testing.T) {
	rng := rand.New(rand.NewSource(3))
	for many := 1; many < 20; many++ {
		want := randomBlocks(rng, many)
		b, _ := writtenOf(want)
		for _, behind := range []string{"\x00", "\x7f", "\xff", "\xff\xff\xff\xff", "\x7f\x00\x00\x00", "\x81\x00\x00\x00", "abcdefgh"} {
			l, n := reads(t, api.OK, append(bytes.Clone(b), behind...))
			if !sameBlocks(l, want) || n != len(b) {
				t.Errorf("%d, %x: %d, not %d", many, behind, n, len(b))
			}
		}
	}
}

func TestReadsBytesThatEnd(t *testing.T) {
	reads(t, api.ErrEnd, nil)
	reads(t, api.ErrEnd, []byte{})
	rng := rand.New(rand.NewSource(4))
	for many := 1; many < 8; many++ {
		b, _ := writtenOf(randomBlocks(rng, many))
		for n := range b {
			reads(t, api.ErrEnd, b[:n])
		}
		reads(t, api.OK, b)
	}
}

func TestReadsBytesOfWhichNoneIsTheLastOne(t *testing.T) {
	reads(t, api.ErrEnd, []byte("\x00\x00\x00\x00"))
	reads(t, api.ErrEnd, []byte("\x01\x00\x00\x01a\x7e\x00\x00\x00"))
	reads(t, api.ErrEnd, make([]byte, 4000))
}

func TestReadsBytesThatEndWithinTheFirstFour(t *testing.T) {
	for _, first := range []byte{0, 1, 126, 127, 128, 254, 255} {
		for n := range 4 {
			head := []byte{first, 0, 0, 0}[:n]
			reads(t, api.ErrEnd, head)
			reads(t, api.ErrEnd, append([]byte{5, 0, 0, 1, 9}, head...))
		}
	}
}

func TestReadsBytesThatEndWithinData(t *testing.T) {
	for _, c := range []struct {
		many int
		head string
	}{
		{1, "\x81\x00\x00\x01"},
		{255, "\x81\x00\x00\xff"},
		{256, "\x81\x00\x01\x00"},
		{65536, "\x81\x01\x00\x00"},
		{1<<24 - 1, "\x81\xff\xff\xff"},
	} {
		for _, less := range []int{0, 1, 2, c.many - 1, c.many} {
			if less > c.many {
				continue
			}
			want := api.ErrEnd
			if less == 0 {
				want = api.OK
			}
			reads(t, want, append([]byte(c.head), make([]byte, c.many-less)...))
		}
	}
}

func TestReadsNoneOfTheType127(t *testing.T) {
	for _, first := range []byte{127, 255} {
		for _, rest := range []string{"\x00\x00\x00", "\x00\x00\x01a", "\x00\x00\x00more"} {
			bad := string([]byte{first}) + rest
			reads(t, api.ErrCode, []byte(bad))
			reads(t, api.ErrCode, []byte("\x00\x00\x00\x01x"+bad))
			// Behind the last one it is none.
			reads(t, api.OK, []byte("\x80\x00\x00\x01x"+bad))
		}
		// The end is told first.
		reads(t, api.ErrEnd, []byte{first, 0, 0, 1})
		reads(t, api.ErrEnd, []byte{first, 0, 0, 2, 1})
		reads(t, api.ErrEnd, []byte{first, 255, 255, 255, 1, 2, 3})
		// So is what is wrong with the block ahead of another.
		reads(t, api.ErrCode, []byte{first &^ 128, 0, 0, 0, 1, 0})
	}
}

func TestReadsEveryFirstByte(t *testing.T) {
	for first := range 256 {
		want := api.OK
		switch {
		case first%128 == 127:
			want = api.ErrCode
		case first < 128:
			want = api.ErrEnd
		}
		reads(t, want, []byte{byte(first), 0, 0, 2, 7, 8})
	}
}

func TestReadsAnyBytes(t *testing.T) {
	rng := rand.New(rand.NewSource(5))
	told := map[api.Errno]int{}
	for range 60000 {
		b := randomBytes(rng)
		_, _, want := readOf(b)
		reads(t, want, b)
		told[want]++
	}
	if told[api.OK] < 1000 || told[api.ErrEnd] < 1000 || told[api.ErrCode] < 1000 {
		t.Error(told)
	}
}

func TestReadBlocksAreTheCallers(t *testing.T) {
	b := []byte("\x01\x00\x00\x03abc\x02\x00\x00\x00\x83\x00\x00\x04defgbehind")
	was := bytes.Clone(b)
	l, _, _ := blocks.Read(b)
	for n := range l {
		// What is written over one, or behind it, is in no other, and not in the bytes.
		for k := range l[n].Data {
			l[n].Data[k] = 'x'
		}
		_ = append(l[n].Data, "yyyyyyyyyyyyyyyyyyyy"...)
	}
	if !bytes.Equal(b, was) {
		t.Errorf("%q", b)
	}
	if string(l[0].Data) != "xxx" || len(l[1].Data) != 0 || string(l[2].Data) != "xxxx" {
		t.Error(l)
	}
	l, _, _ = blocks.Read(b)
	clear(b)
	if string(l[0].Data) != "abc" || string(l[2].Data) != "defg" {
		t.Error(l)
	}
}
