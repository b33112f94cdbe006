package info_test

import (
	"bytes"
	"math/rand"
	"slices"
	"testing"

	"jetsam/api"
	"jetsam/info"
)

// P11.4.

func TestReadOfWriteIsTheInfo(t *testing.T) {
	rng := rand.New(rand.NewSource(10))
	for range 20000 {
		i := randomInfo(rng)
		b, e := info.Write(i)
		k, f := info.Read(b)
		if k != i || len(b) != info.Size || e != api.OK || f != api.OK {
			t.Fatalf("%+v, %x, %+v, error %d, %d", i, b, k, int(e), int(f))
		}
	}
}

func TestWriteOfReadIsTheBytes(t *testing.T) {
	rng := rand.New(rand.NewSource(11))
	right := 0
	for range 60000 {
		b := make([]byte, info.Size)
		rng.Read(b)
		for range rng.Intn(3) {
			b[rng.Intn(len(b))] = byte(some(rng, 0, 255))
		}
		i, e := info.Read(b)
		if e != api.OK {
			continue
		}
		right++
		if c, e := info.Write(i); !bytes.Equal(c, b) || e != api.OK {
			t.Fatalf("%x, %+v, %x, error %d", b, i, c, int(e))
		}
	}
	if right < 5000 {
		t.Error("too few were read", right)
	}
}

func TestOfCoversItsPieces(t *testing.T) {
	rng := rand.New(rand.NewSource(12))
	for n := range 20000 {
		l := randomPieces(rng, 1+n%12)
		i := info.Of(sound, randomSum(rng), l...)
		covers(t, api.OK, i, l...)
		// It may be, it is written, and read again it covers them still.
		checks(t, i)
		b, e := info.Write(i)
		k, f := info.Read(b)
		if e != api.OK || f != api.OK {
			t.Fatal(l, int(e), int(f))
		}
		covers(t, api.OK, k, l...)
	}
}

func TestOfCoversNoOtherPieces(t *testing.T) {
	rng := rand.New(rand.NewSource(13))
	for n := range 10000 {
		l := randomPieces(rng, 1+n%12)
		i := info.Of(sound, [16]byte{}, l...)
		covers(t, api.ErrNone, i)
		covers(t, api.ErrParam, i, append(slices.Clone(l), piece(1, l[0].Bytes))...)
		if len(l) > 1 {
			covers(t, api.ErrParam, i, l[1:]...)
			covers(t, api.ErrParam, i, l[:len(l)-1]...)
		}
		for k := range l {
			m := slices.Clone(l)
			m[k].Block += some(rng, 1, -1)
			covers(t, api.ErrParam, i, m...)
			for _, size := range []int{i.MinFrame - 1, i.MaxFrame + 1} {
				m = slices.Clone(l)
				m[k].Bytes = size
				covers(t, coversOf(i, m), i, m...)
			}
		}
	}
}

func TestWhatIsOfNoPiecesIsNotCovered(t *testing.T) {
	i := info.Of(sound, [16]byte{})
	covers(t, api.ErrNone, i)
	checks(t, i)
	if e := info.Check(i); e != api.OK {
		t.Error(int(e))
	}
}

func TestPiecesThatNoStreamHas(t *testing.T) {
	// A block below 16 that is not the last one: MinBlock is 16 all the same, and P11.3's words tell it wrong.
	covers(t, api.ErrParam, info.Of(sound, [16]byte{}, piece(15, 9), piece(15, 9)), piece(15, 9), piece(15, 9))
	covers(t, api.OK, info.Of(sound, [16]byte{}, piece(16, 9), piece(15, 9)), piece(16, 9), piece(15, 9))
	covers(t, api.OK, info.Of(sound, [16]byte{}, piece(15, 9)), piece(15, 9))
	// Blocks, Bytes, or a Total, beyond what an info may tell: they are covered, but it may not be written.
	for _, l := range [][]info.Piece{
		{piece(65536, 9)},
		{piece(64, 9), piece(65536, 9)},
		{piece(64, -1), piece(64, 9)},
		slices.Repeat([]info.Piece{piece(65535, 9)}, 1<<20+17),
	} {
		i := ofs(t, sound, [16]byte{}, l...)
		covers(t, api.OK, i, l...)
		if e := info.Check(i); e != api.ErrRange {
			t.Error(i, int(e))
		}
		checks(t, i)
	}
	// As many as it may tell, and one less.
	l := append(slices.Repeat([]info.Piece{piece(65535, 9)}, 1<<20+16), piece(15, 9))
	if i := ofs(t, sound, [16]byte{}, l...); i.Total != api.MaxTotal-1 || info.Check(i) != api.OK {
		t.Error(i)
	}
	l[len(l)-1].Block = 16
	if i := ofs(t, sound, [16]byte{}, l...); i.Total != api.MaxTotal || info.Check(i) != api.ErrRange {
		t.Error(i)
	}
}
