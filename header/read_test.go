package header_test

import (
	"bytes"
	"math/rand"
	"slices"
	"testing"

	"jetsam/api"
	"jetsam/header"
	"jetsam/sums"
)

// P8.2.

// reads tells that Read answers something of bytes.
func reads(t *testing.T, b []byte, want got) {
	t.Helper()
	if g := read(b); g != want {
		t.Fatalf("%x: %+v, not %+v", b[:min(len(b), 40)], g, want)
	}
}

func TestReadsTheExample(t *testing.T) {
	want := got{plain(), 6, api.OK}
	reads(t, []byte("\xff\xf8\xc9\xa8\x00\x8d"), want)
	reads(t, []byte("\xff\xf8\xc9\xa8\x00\x8d\x00"), want)
	reads(t, []byte("\xff\xf8\xc9\xa8\x00\x8d\xff\xf8\xc9\xa8\x00\x8d"), want)
}

func TestReadsAllCodes(t *testing.T) {
	for h := range allHeaders {
		b := written(t, h)
		reads(t, b, got{h, len(b), api.OK})
		reads(t, append(b, 0xff, 0xff, 0xff), got{h, len(b), api.OK})
	}
}

func TestReadsAllBlocksAndRatesOfCodesWithBits(t *testing.T) {
	for n := range 65536 {
		for _, h := range []header.Header{
			{BlockCode: 6, RateCode: 12, Block: 1 + n%256, Rate: n / 256 * 1000},
			{BlockCode: 7, RateCode: 13, Block: 1 + n%65535, Rate: n},
			{BlockCode: 7, RateCode: 14, Block: 65535 - n%65535, Rate: n * 10},
		} {
			b := written(t, h)
			reads(t, b, got{h, len(b), api.OK})
		}
	}
}

func TestBytesRunOutAtEveryPlace(t *testing.T) {
	at := 0
	for h := range allHeaders {
		if at++; at%7 != 0 {
			continue
		}
		b := written(t, h)
		for n := range b {
			// What stands behind the length is none of it.
			reads(t, b[:n], wrong(api.ErrEnd))
		}
	}
	reads(t, nil, wrong(api.ErrEnd))
}

func TestEachOfTheFirstBitsIsAsTold(t *testing.T) {
	b := written(t, plain())
	for at := range 16 {
		c := slices.Clone(b)
		c[at/8] ^= 0x80 >> (at % 8)
		want := wrong(api.ErrSync)
		if at == 15 {
			// The sixteenth is no such bit.
			want = wrong(api.ErrSum8)
		}
		reads(t, c, want)
		// It comes ahead of all that stands behind it, and of an end there.
		for n := at/8 + 1; at < 15 && n < len(c); n++ {
			reads(t, c[:n], want)
		}
		c[2], c[3], c[4] = 0, 0xff, 0xff
		reads(t, c, wrong(either(at < 15, api.ErrSync, api.ErrCode)))
	}
	for v := range 1 << 16 {
		c := append([]byte{byte(v / 256), byte(v)}, b[2:]...)
		if v/2 != 0x7ffc {
			reads(t, c, wrong(api.ErrSync))
			reads(t, c[:2], wrong(api.ErrSync))
		} else {
			c = summed(c[:len(c)-1])
			if g := read(c); g.e != api.OK || g.h.Variable != (v%2 == 1) {
				t.Error(v, g)
			}
		}
	}
	// A first byte that is right, and a second one that is not.
	reads(t, []byte{0xff}, wrong(api.ErrEnd))
	reads(t, []byte{0xfe}, wrong(api.ErrSync))
	reads(t, []byte{0xff, 0xfa}, wrong(api.ErrSync))
	reads(t, []byte{0xff, 0xf8}, wrong(api.ErrEnd))
}

func TestReadsAllThirdAndFourthBytes(t *testing.T) {
	for v := range 1 << 16 {
		for _, second := range []byte{0xf8, 0xf9} {
			b := []byte{0xff, second, byte(v / 256), byte(v), 0x05, 0x12, 0x34, 0x56, 0x78}
			reads(t, b[:3], readOf(b[:3]))
			reads(t, b[:4], readOf(b[:4]))
			reads(t, b, readOf(b))
			// With a sum at each place at which one may stand.
			for n := 5; n <= len(b); n++ {
				c := summed(b[:n])
				reads(t, c, readOf(c))
			}
		}
	}
}

func TestCodesThatAreNoneAreReadAsSuch(t *testing.T) {
	for _, c := range []struct {
		s string
		e api.Errno
	}{
		{"\xff\xf8\x00", api.ErrCode},
		{"\xff\xf8\x0f", api.ErrCode},
		{"\xff\xf8\x1f", api.ErrCode},
		{"\xff\xf8\xff", api.ErrCode},
		{"\xff\xf8\x10", api.ErrEnd},
		{"\xff\xf8\x19", api.ErrEnd},
		{"\xff\xf8\x19\xb0", api.ErrCode},
		{"\xff\xf8\x19\xf0", api.ErrCode},
		{"\xff\xf8\x19\x06", api.ErrCode},
		{"\xff\xf8\x19\xa0", api.ErrEnd},
		// The bit that has to be 0, behind codes of its byte alone.
		{"\xff\xf8\x19\xb1", api.ErrCode},
		{"\xff\xf8\x19\x07", api.ErrCode},
		{"\xff\xf8\x19\x09", api.ErrForm},
		{"\xff\xf8\x19\xaf", api.ErrForm},
		{"\xff\xf8\x19\x09\x80", api.ErrForm},
		{"\xff\xf8\x09\x09", api.ErrCode},
	} {
		reads(t, []byte(c.s), wrong(c.e))
	}
}

func TestReadsNumbers(t *testing.T) {
	for _, c := range []struct {
		s string
		e api.Errno
	}{
		{"\xff\xf8\x19\x08", api.ErrEnd},
		{"\xff\xf8\x19\x08\x80", api.ErrForm},
		{"\xff\xf8\x19\x08\xff", api.ErrForm},
		{"\xff\xf8\x19\x08\xc2", api.ErrEnd},
		{"\xff\xf8\x19\x08\xc2\x00", api.ErrForm},
		{"\xff\xf8\x19\x08\xe0\x80\x80", api.ErrForm},
		{"\xff\xf8\x19\x08\xfd\xbf\xbf\xbf\xbf", api.ErrEnd},
		{"\xff\xf8\x19\x08\xfd\xbf\xbf\xbf\xbf\xbf", api.ErrEnd},
		{"\xff\xf8\x19\x08\xfd\xbf\xbf\xbf\xbf\x3f", api.ErrForm},
		// Numbers from 2^31 on are those of Variable alone.
		{"\xff\xf8\x19\x08\xfe\x82\x80\x80\x80\x80\x80", api.ErrRange},
		{"\xff\xf8\x19\x08\xfe\xbf\xbf\xbf\xbf\xbf\xbf", api.ErrRange},
		{"\xff\xf8\x19\x08\xfe\x82\x80\x80\x80\x80", api.ErrEnd},
		{"\xff\xf8\x19\x08\xfe\x81\xbf\xbf\xbf\xbf\xbf", api.ErrForm},
		{"\xff\xf9\x19\x08\xfe\x82\x80\x80\x80\x80\x80", api.ErrEnd},
		{"\xff\xf9\x19\x08\xfe\xbf\xbf\xbf\xbf\xbf\xbf", api.ErrEnd},
		{"\xff\xf9\x19\x08\xfe\x81\xbf\xbf\xbf\xbf\xbf", api.ErrForm},
		// Ahead of a Block of 65536, and of a sum.
		{"\xff\xf8\x79\x08\xfe\x82\x80\x80\x80\x80\x80\xff\xff\x00", api.ErrRange},
		{"\xff\xf9\x79\x08\xfe\x82\x80\x80\x80\x80\x80\xff\xff\x00", api.ErrCode},
		{"\xff\xf8\x79\x08\x80\xff\xff\x00", api.ErrForm},
	} {
		reads(t, []byte(c.s), wrong(c.e))
	}
	for _, variable := range []bool{false, true} {
		for _, n := range someNumbers(variable) {
			h := plain()
			h.Variable, h.Number = variable, n
			b := written(t, h)
			reads(t, b, got{h, len(b), api.OK})
		}
	}
}

func TestTheBlock65536IsNone(t *testing.T) {
	for rate := range 15 {
		for _, behind := range []string{"", "\x00", "\x00\x00", "\x00\x00\x00", "\xff\xff\xff\xff"} {
			head := append([]byte{0xff, 0xf9, 0x70 | byte(rate), 0x08, 0x00, 0xff, 0xff}, behind...)
			reads(t, head, wrong(api.ErrCode))
			reads(t, summed(head), wrong(api.ErrCode))
			reads(t, head[:6], wrong(api.ErrEnd))
		}
	}
	// One less is a Block, and so is one of 256 by eight bits.
	h := header.Header{BlockCode: 7, Block: 65535}
	reads(t, written(t, h), got{h, 8, api.OK})
	h = header.Header{BlockCode: 6, Block: 256}
	reads(t, written(t, h), got{h, 7, api.OK})
}

func TestSumsThatDoNotFit(t *testing.T) {
	at := 0
	for h := range allHeaders {
		if at++; at%97 != 0 {
			continue
		}
		b := written(t, h)
		last := len(b) - 1
		right := b[last]
		for v := range 256 {
			b[last] = byte(v)
			want := wrong(api.ErrSum8)
			if byte(v) == right {
				want = got{h, len(b), api.OK}
			}
			reads(t, b, want)
			reads(t, append(slices.Clone(b), right), want)
		}
	}
}

func TestReadsAnyBytesAsTheTextsSay(t *testing.T) {
	rng := rand.New(rand.NewSource(2))
	seen := map[api.Errno]int{}
	for range 300000 {
		b := randomBytes(rng, rng.Intn(20))
		if rng.Intn(20) > 0 {
			// A header, somewhere damaged, or cut.
			b = append(written(t, randomHeader(rng)), b...)
			for range rng.Intn(3) {
				b[rng.Intn(min(len(b), 16))] = byte(rng.Intn(256))
			}
			if rng.Intn(8) == 0 {
				// Numbers of Variable are not always those of others.
				b[1] ^= 1
			}
			if n := rng.Intn(16); n > 0 && n < len(b) && rng.Intn(2) == 0 {
				b = summed(b[:n])
			}
			b = b[:rng.Intn(len(b)+1)]
		}
		want := readOf(b)
		seen[want.e]++
		reads(t, b, want)
	}
	for _, e := range []api.Errno{api.OK, api.ErrEnd, api.ErrSync, api.ErrCode, api.ErrForm, api.ErrRange, api.ErrSum8} {
		if seen[e] < 200 {
			t.Error("too few of the error", int(e), seen[e])
		}
	}
}

func TestReadDoesNotWrite(t *testing.T) {
	rng := rand.New(rand.NewSource(3))
	for range 2000 {
		all := append(written(t, randomHeader(rng)), randomBytes(rng, 20)...)
		before := slices.Clone(all)
		b := all[:rng.Intn(len(all)+1)]
		if g, again := read(b), read(b); g != again {
			t.Fatal(g, again)
		}
		if !bytes.Equal(all, before) {
			t.Fatalf("%x, not %x", all, before)
		}
	}
}

func TestReadsAtEachPlaceOfLongBytes(t *testing.T) {
	h := plain()
	b := bytes.Repeat(written(t, h), 100000)
	found := 0
	for at := range b {
		if g := read(b[at:]); g == (got{h, 6, api.OK}) {
			found++
		}
	}
	if found != 100000 {
		t.Error(found)
	}
}

func TestASumIsThatOfAllBytesAheadOfIt(t *testing.T) {
	rng := rand.New(rand.NewSource(4))
	for range 2000 {
		b := written(t, randomHeader(rng))
		w, e := header.Write(read(b).h)
		if e != api.OK || sums.Sum8(w) != 0 || !bytes.Equal(w, b) {
			t.Fatalf("%x, %x, error %d", w, b, int(e))
		}
	}
}
