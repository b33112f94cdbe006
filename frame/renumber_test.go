package frame_test

import (
	"bytes"
	"math/rand"
	"slices"
	"testing"

	"jetsam/api"
	"jetsam/frame"
	"jetsam/header"
	"jetsam/sums"
)

// P10.4.

// renumbers tells that Renumber answers bytes.
func renumbers(t *testing.T, b []byte, p api.Params, variable bool, number int, want []byte) {
	t.Helper()
	if c, e := frame.Renumber(b, p, variable, number); !bytes.Equal(c, want) || e != api.OK {
		t.Fatalf("%.80x, %+v, %t, %d: %.80x, error %d, not %.80x", b, p, variable, number, c, int(e), want)
	}
}

// renumbersError tells that it answers an error alone.
func renumbersError(t *testing.T, b []byte, p api.Params, variable bool, number int, want api.Errno) {
	t.Helper()
	if c, e := frame.Renumber(b, p, variable, number); len(c) != 0 || e != want {
		t.Fatalf("%.80x, %+v, %t, %d: %.80x, error %d, not %d", b, p, variable, number, c, int(e), int(want))
	}
}

// someNumbers are Numbers of each length of code, the least and the greatest ones, that may be; and some that may not.
func someNumbers(variable bool) (right, wrong []int) {
	right = []int{0, 1, 127, 128, 2047, 2048, 65535, 65536, 1<<21 - 1, 1 << 21, 1<<26 - 1, 1 << 26, 1<<31 - 1}
	beyond := []int{1 << 31, 1<<36 - 1}
	if variable {
		return append(right, beyond...), append([]int{1 << 36}, farNumbers...)
	}
	return right, append(append(beyond, 1<<36), farNumbers...)
}

func TestRenumbersTheExample(t *testing.T) {
	for _, c := range []struct {
		variable bool
		number   int
		head     string
	}{
		{false, 0, "\xff\xf8\x69\x02\x00\x03"},
		{true, 0, "\xff\xf9\x69\x02\x00\x03"},
		{false, 5, "\xff\xf8\x69\x02\x05\x03"},
		{true, 200, "\xff\xf9\x69\x02\xc3\x88\x03"},
		{false, 1<<31 - 1, "\xff\xf8\x69\x02\xfd\xbf\xbf\xbf\xbf\xbf\x03"},
		{true, 1<<36 - 1, "\xff\xf9\x69\x02\xfe\xbf\xbf\xbf\xbf\xbf\xbf\x03"},
	} {
		want := headed(c.head, "0000000000000011")
		renumbers(t, []byte(example), api.Params{}, c.variable, c.number, want)
		// And back.
		renumbers(t, want, api.Params{}, false, 0, []byte(example))
	}
}

func TestRenumbersAnyFrame(t *testing.T) {
	rng := rand.New(rand.NewSource(15))
	for range 500 {
		s := randomSound(rng)
		b := writtenOf(t, s.f, s.depth)
		for _, variable := range []bool{false, true} {
			right, wrong := someNumbers(variable)
			for _, number := range right {
				g := s.f
				g.Variable, g.Number = variable, number
				// All else is as it was, codes that are not the shortest too.
				renumbers(t, b, s.p, variable, number, writtenOf(t, g, s.depth))
			}
			for _, number := range wrong {
				renumbersError(t, b, s.p, variable, number, api.ErrRange)
			}
		}
	}
}

func TestBothSumsOfARenumberedFrameFit(t *testing.T) {
	for mode := range 11 {
		f := wide(mode)
		b := writtenOf(t, f, 16)
		for number := range 300 {
			c, e := frame.Renumber(b, api.Params{}, true, number)
			h, n, g := header.Read(c)
			if e != api.OK || g != api.OK || h.Number != number || !h.Variable || sums.Sum8(c[:n]) != 0 || sums.Sum16(c) != 0 {
				t.Fatalf("%d: %x, error %d, %d", number, c, int(e), int(g))
			}
		}
	}
}

func TestRenumberTellsReadsErrorFirst(t *testing.T) {
	rng := rand.New(rand.NewSource(16))
	seen := map[api.Errno]int{}
	for range 5000 {
		s := randomSound(rng)
		b := writtenOf(t, s.f, s.depth)
		for range 1 + rng.Intn(2) {
			b[rng.Intn(len(b))] ^= 1 << rng.Intn(8)
		}
		if rng.Intn(2) == 0 {
			head, _ := header.Write(s.f.Header)
			copy(b, head)
			b = summed(b[:len(b)-2])
		}
		if rng.Intn(8) == 0 {
			s.p.Channels = 9
		}
		e := readOf(b, s.p).e
		if e == api.OK {
			continue
		}
		seen[e]++
		// Ahead of bytes behind it, and of a number that may not be.
		renumbersError(t, b, s.p, true, 5, e)
		renumbersError(t, b, s.p, false, -1, e)
		if e != api.ErrEnd {
			renumbersError(t, append(b, 0), s.p, false, -1, e)
		}
	}
	for _, e := range []api.Errno{api.ErrForm, api.ErrCode, api.ErrSum16, api.ErrRange, api.ErrParam, api.ErrSum8} {
		if seen[e] < 30 {
			t.Error("too few of the error", int(e), seen[e])
		}
	}
	b := []byte(example)
	for n := range b {
		renumbersError(t, b[:n], api.Params{}, false, -1, api.ErrEnd)
	}
	renumbersError(t, b[1:], api.Params{}, false, 0, api.ErrSync)
	renumbersError(t, b, api.Params{Rate: 8000}, false, -1, api.ErrParam)
	renumbersError(t, nil, api.Params{}, false, -1, api.ErrEnd)
	// Samples that are none only once both channels are joined.
	renumbersError(t, stereoFrame(t, 8, 8, 127, -1), api.Params{Depth: 8}, false, -1, api.ErrRange)
	renumbersError(t, append(stereoFrame(t, 8, 8, 127, -1), 0), api.Params{Depth: 8}, false, 0, api.ErrRange)
}

func TestRenumberRefusesBytesBehindTheFrame(t *testing.T) {
	rng := rand.New(rand.NewSource(17))
	for range 500 {
		s := randomSound(rng)
		b := writtenOf(t, s.f, s.depth)
		for _, behind := range []string{"\x00", "\xff", "\x00\x00", example, string(b)} {
			c := append(slices.Clone(b), behind...)
			renumbersError(t, c, s.p, false, 0, api.ErrForm)
			// Ahead of a number that may not be.
			renumbersError(t, c, s.p, false, -1, api.ErrForm)
			renumbersError(t, c, s.p, true, 1<<36, api.ErrForm)
			// What stands behind the bytes' length is none of them.
			renumbers(t, c[:len(b)], s.p, s.f.Variable, s.f.Number, b)
		}
	}
}

func TestRenumbersGreatFrames(t *testing.T) {
	for _, size := range []int{1 << 14, 1<<14 + 1, 1 << 15, 100000} {
		f, b := greatFrame(t, size)
		f.Number = 1 << 30
		renumbers(t, b, api.Params{}, false, 1<<30, writtenOf(t, f, 8))
		renumbersError(t, append(b, 0), api.Params{}, false, 1<<30, api.ErrForm)
	}
}

func TestRenumberDoesNotWriteAndAnswersItsOwn(t *testing.T) {
	rng := rand.New(rand.NewSource(18))
	for range 1000 {
		s := randomSound(rng)
		b := writtenOf(t, s.f, s.depth)
		all := append(slices.Clone(b), 1, 2, 3, 4, 5, 6, 7, 8)
		before := slices.Clone(all)
		c, _ := frame.Renumber(all[:len(b)], s.p, true, 1<<35)
		kept := slices.Clone(c)
		for i := range c[:cap(c)] {
			c[:cap(c)][i] = 0x77
		}
		if !bytes.Equal(all, before) {
			t.Fatalf("%x, not %x", all, before)
		}
		c, _ = frame.Renumber(all[:len(b)], s.p, true, 1<<35)
		clear(all)
		if !bytes.Equal(c, kept) {
			t.Fatalf("%x, not %x", c, kept)
		}
	}
}
