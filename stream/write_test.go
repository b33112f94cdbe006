package stream_test

import (
	"bytes"
	"math/rand"
	"slices"
	"testing"

	"jetsam/api"
	"jetsam/blocks"
	"jetsam/stream"
)

// P14.2, Write and Sum.

// writes tells that Write answers what it has to.
func writes(t *testing.T, want string, e api.Errno, l []blocks.Block, raw ...[]byte) []byte {
	t.Helper()
	var was []blocks.Block
	for _, k := range l {
		was = append(was, blocks.Block{Type: k.Type, Data: bytes.Clone(k.Data)})
	}
	// What stands behind the lengths is looked at, too.
	wasRaw := slices.Clone(raw[:cap(raw)])
	for n := range wasRaw {
		wasRaw[n] = bytes.Clone(wasRaw[n])
	}
	b, f := stream.Write(l, raw...)
	if string(b) != want || f != e {
		t.Fatalf("%s, %s: %.80x, error %d, not %.80x, error %d", brief(l), brief(raw), b, int(f), want, int(e))
	}
	sameBlock := func(a, b blocks.Block) bool { return a.Type == b.Type && bytes.Equal(a.Data, b.Data) }
	if !slices.EqualFunc(l, was, sameBlock) || !slices.EqualFunc(raw[:cap(raw)], wasRaw, bytes.Equal) {
		t.Fatal("what was handed in is written into")
	}
	return b
}

func TestWritesByHand(t *testing.T) {
	padding := []blocks.Block{block(1, "\x00\x00")}
	writes(t, "fLaC\x81\x00\x00\x02\x00\x00", api.OK, padding)
	writes(t, "fLaC\x81\x00\x00\x02\x00\x00ab", api.OK, padding, []byte("a"), []byte("b"))
	writes(t, "fLaC\x81\x00\x00\x02\x00\x00abc", api.OK, padding, []byte("ab"), nil, []byte{}, []byte("c"))
	writes(t, "fLaC\x00\x00\x00\x01x\x81\x00\x00\x02\x00\x00fLaC", api.OK, append([]blocks.Block{block(0, "x")}, padding...), []byte("fLaC"))
	writes(t, "fLaC\xfe\x00\x00\x00", api.OK, []blocks.Block{block(126, "")})
}

func TestWriteHasErrorsOfBlocksAlone(t *testing.T) {
	raw := []byte{1, 2, 3}
	long := blocks.Block{Data: make([]byte, blocks.MaxData+1)}
	writes(t, "", api.ErrNone, nil)
	writes(t, "", api.ErrNone, nil, raw)
	writes(t, "", api.ErrNone, []blocks.Block{}, raw, raw)
	writes(t, "", api.ErrCode, []blocks.Block{block(0, ""), block(127, "")}, raw)
	writes(t, "", api.ErrFull, []blocks.Block{long}, raw)
	for _, n := range farNumbers {
		writes(t, "", api.ErrCode, []blocks.Block{block(n, "")}, raw)
	}
	if b, _ := stream.Write(nil, raw); len(b) > 0 {
		t.Errorf("%x", b)
	}
}

func TestWritesAnyBytes(t *testing.T) {
	rng := rand.New(rand.NewSource(4))
	for range 5000 {
		l := make([]blocks.Block, 1+rng.Intn(4))
		for n := range l {
			l[n] = block(rng.Intn(127), zeros(rng.Intn(40)))
		}
		ahead, _ := blocks.Write(l...)
		want := "fLaC" + string(ahead)
		raw := make([][]byte, rng.Intn(5), 6)
		for n := range raw {
			raw[n] = make([]byte, rng.Intn(30), 40)
			rng.Read(raw[n])
			want += string(raw[n])
		}
		b := writes(t, want, api.OK, l, raw...)
		for n := range b[:cap(b)] {
			b[:cap(b)][n] = 0x77
		}
		writes(t, want, api.OK, l, raw...)
	}
}

func TestSum(t *testing.T) {
	rng := rand.New(rand.NewSource(5))
	for range 5000 {
		p := randomParams(rng)
		l := randomSound(rng, p, some(rng, 0, 1, 2, rng.Intn(70)))
		was := cut(l, 0, len(l[0]))
		sum, e := stream.Sum(p.Depth, l...)
		if sum != digestOf(p.Depth, l...) || e != api.OK {
			t.Fatalf("%v, %v: %x, error %d", p, l, sum, int(e))
		}
		if !slices.EqualFunc(l, was, slices.Equal[[]int]) {
			t.Fatal("what was handed in is written into")
		}
	}
	// The digest of no bytes, as the chapter of digests tells it, and that of the bytes of its example.
	if sum, e := stream.Sum(8, nil); sum != [16]byte{0xd4, 0x1d, 0x8c, 0xd9, 0x8f, 0, 0xb2, 4, 0xe9, 0x80, 9, 0x98, 0xec, 0xf8, 0x42, 0x7e} || e != api.OK {
		t.Errorf("%x, error %d", sum, int(e))
	}
}

func TestSumErrors(t *testing.T) {
	nine := slices.Repeat([][]int{{0}}, 9)
	for _, c := range []struct {
		e     api.Errno
		depth int
		l     [][]int
	}{
		{api.ErrArg, 3, [][]int{{0}}},
		{api.ErrArg, 33, [][]int{{0}}},
		{api.ErrArg, 16, nil},
		{api.ErrArg, 16, nine},
		{api.ErrArg, 16, [][]int{{0}, {}}},
		{api.ErrArg, 16, [][]int{{1 << 20}, {1, 2}}},
		{api.ErrRange, 16, [][]int{{32768}}},
		{api.ErrRange, 16, [][]int{{0}, {-32769}}},
		{api.ErrRange, 4, [][]int{{0, 8}}},
		{api.OK, 4, [][]int{{-8, 7}}},
		{api.OK, 16, nine[:8]},
	} {
		sum, e := stream.Sum(c.depth, c.l...)
		if e != c.e || e != api.OK && sum != [16]byte{} {
			t.Errorf("%d, %v: %x, error %d", c.depth, c.l, sum, int(e))
		}
	}
	for _, n := range farNumbers {
		if sum, e := stream.Sum(n, []int{0}); e != api.ErrArg || sum != [16]byte{} {
			t.Errorf("%d: %x, error %d", n, sum, int(e))
		}
		if sum, e := stream.Sum(16, []int{n}); n != -1 && (e != api.ErrRange || sum != [16]byte{}) {
			t.Errorf("%d: %x, error %d", n, sum, int(e))
		}
	}
}
