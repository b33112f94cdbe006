package blocks_test

import (
	"bytes"
	"math/rand"
	"slices"
	"testing"

	"jetsam/api"
	"jetsam/blocks"
)

// P12.5.

func TestReadOfWriteIsTheBlocks(t *testing.T) {
	rng := rand.New(rand.NewSource(10))
	for n := range 5000 {
		l := randomBlocks(rng, 1+n%12)
		b := writes(t, api.OK, l...)
		k, size, e := blocks.Read(b)
		if !sameBlocks(k, l) || size != len(b) || e != api.OK {
			t.Fatalf("%v, %x, %v, %d, error %d", l, b, k, size, int(e))
		}
	}
	long := blocks.Block{Type: 6, Data: make([]byte, blocks.MaxData)}
	rng.Read(long.Data)
	l := []blocks.Block{long, block(1, ""), long}
	if k, size, e := blocks.Read(writes(t, api.OK, l...)); !sameBlocks(k, l) || size != 12+2*blocks.MaxData || e != api.OK {
		t.Error(size, int(e))
	}
}

func TestWriteOfReadIsTheBytes(t *testing.T) {
	rng := rand.New(rand.NewSource(11))
	right := 0
	for range 60000 {
		b := randomBytes(rng)
		l, n, e := blocks.Read(b)
		if e != api.OK {
			continue
		}
		right++
		if c := writes(t, api.OK, l...); !bytes.Equal(c, b[:n]) {
			t.Fatalf("%x, %v, %x", b[:n], l, c)
		}
	}
	if right < 5000 {
		t.Error("too few were read", right)
	}
}

func TestPointsOfWritePointsAreThePoints(t *testing.T) {
	rng := rand.New(rand.NewSource(12))
	for n := range 20000 {
		l := randomPoints(rng, n%9, n%4)
		b := writesPoints(t, api.OK, l...)
		if k, e := blocks.Points(b); !slices.Equal(k, l) || e != api.OK {
			t.Fatalf("%v, %x, %v, error %d", l, b, k, int(e))
		}
		// They are a Seek that may stand in a stream.
		orders(t, api.OK, info(), blocks.Block{Type: blocks.Seek, Data: b})
		seeks(t, api.OK, teller(l...), l...)
	}
}

func TestWritePointsOfPointsIsTheBytes(t *testing.T) {
	rng := rand.New(rand.NewSource(13))
	right := 0
	for range 60000 {
		rows := make([]row, rng.Intn(5))
		for n := range rows {
			rows[n] = row{uint64(n)<<60 + uint64(rng.Intn(1<<40)), rng.Uint64() >> rng.Intn(3), uint16(rng.Intn(1 << 16))}
			if rng.Intn(4) == 0 {
				rows[n].Sample = all64
			}
		}
		b := rowsOf(rows...)
		l, e := blocks.Points(b)
		if e != api.OK {
			continue
		}
		right++
		if c := writesPoints(t, api.OK, l...); !bytes.Equal(c, b) {
			t.Fatalf("%x, %v, %x", b, l, c)
		}
	}
	if right < 5000 {
		t.Error("too few were read", right)
	}
}
