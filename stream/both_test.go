package stream_test

import (
	"bytes"
	"math/rand"
	"slices"
	"testing"

	"jetsam/api"
	"jetsam/info"
	"jetsam/stream"
)

// P14.4.

func TestReadOfMakeIsTheSamples(t *testing.T) {
	rng := rand.New(rand.NewSource(8))
	for range 3000 {
		p := randomParams(rng)
		isVariable := rng.Intn(2) == 0
		sizes := randomSizes(rng, isVariable, 1+rng.Intn(5))
		total := 0
		for _, size := range sizes {
			total += size
		}
		l := randomSound(rng, p, total)
		b, e := stream.Make(p, isVariable, sizes, l...)
		s, f := stream.Read(b)
		if e != api.OK || f != api.OK || s.Params != p || s.Total != total || !slices.EqualFunc(s.Samples(), l, slices.Equal[[]int]) {
			t.Fatalf("%v, %v, %v: error %d, %d, %s", p, isVariable, sizes, int(e), int(f), brief(s))
		}
		n := 0
		for q := range s.Places() {
			if q.Block != sizes[n] || s.Frames[n].Variable != isVariable {
				t.Fatal(q, sizes)
			}
			n++
		}
		if n != len(sizes) {
			t.Fatal(n, sizes)
		}
	}
}

func TestWriteOfReadIsTheBytes(t *testing.T) {
	rng := rand.New(rand.NewSource(9))
	for range 3000 {
		b := randomSheet(t, rng).bytesOf(t)
		s, e := stream.Read(b)
		c, f := stream.Write(s.Blocks, s.Raw...)
		if e != api.OK || f != api.OK || !bytes.Equal(b, c) {
			t.Fatalf("%.80x, %.80x, error %d, %d", b, c, int(e), int(f))
		}
		// And again: what is read of it is the same.
		if k, e := stream.Read(c); e != api.OK || !same(s, k) || !s.Same(k) {
			t.Fatalf("%s, %s, error %d", brief(s), brief(k), int(e))
		}
	}
}

func TestNoBeginningOfAStreamIsOne(t *testing.T) {
	for _, l := range [][]part{fixed(20), fixed(32, 32, 32, 6), variable(20, 30, 16, 4)} {
		s := sheetOf(t, plain, l...)
		for range 2 {
			s.info.Total = totalOf(l)
			b := s.bytesOf(t)
			for n := range b {
				_, e := stream.Read(b[:n])
				reads(t, e, b[:n])
				if e == api.OK {
					t.Errorf("%d of %d", n, len(b))
				}
			}
			reads(t, api.OK, b)
			s = s.with(comments(t, "A=b"), block(1, zeros(5)), pointsBlock(t, kept()))
		}
		// Where it is not known, one that ends where a frame does is one, too.
		s = sheetOf(t, plain, l...)
		b := s.bytesOf(t)
		n := len(b)
		for k := len(s.raw) - 1; k > 0; k-- {
			n -= len(s.raw[k])
			reads(t, api.OK, b[:n])
			s.info.Total = totalOf(l)
			reads(t, api.ErrParam, s.bytesOf(t)[:n])
			s.info.Total = 0
		}
		reads(t, api.ErrNone, b[:n-len(s.raw[0])])
	}
}

func TestNoBeginningOfAnyStreamIsOne(t *testing.T) {
	rng := rand.New(rand.NewSource(10))
	for range 300 {
		s := randomSheet(t, rng)
		total := 0
		for q := range s.reads(t, api.OK).Places() {
			total += q.Block
		}
		s.info.Total = total
		b := s.bytesOf(t)
		for range 20 {
			n := rng.Intn(len(b))
			if _, e := stream.Read(b[:n]); e == api.OK {
				t.Fatalf("%d of %x", n, b)
			}
		}
	}
}

func TestPiecesOfAStreamAreCovered(t *testing.T) {
	rng := rand.New(rand.NewSource(11))
	for range 300 {
		s := randomSheet(t, rng).reads(t, api.OK)
		var l []info.Piece
		for q := range s.Places() {
			l = append(l, info.Piece{Block: q.Block, Bytes: q.Bytes})
		}
		if e := s.Covers(l...); e != api.OK {
			t.Fatal(int(e))
		}
	}
}
