package info_test

import (
	"bytes"
	"math/rand"
	"testing"

	"jetsam/api"
	"jetsam/info"
)

// P11.1, Check and Write.

func TestLimits(t *testing.T) {
	if info.Size != 34 || info.MinBlock != 16 || info.MaxFrame != 16777215 {
		t.Error(info.Size, info.MinBlock, info.MaxFrame)
	}
}

func TestWritesByHand(t *testing.T) {
	for _, c := range []struct {
		i info.Info
		s string
	}{
		{wide(), "\x00\x10\xff\xff\x00\x00\x00\x00\x00\x00\x00\x00\x10\x30\x00\x00\x00\x00" + "\x00\x00\x00\x00\x00\x00\x00\x00\x00\x00\x00\x00\x00\x00\x00\x00"},
		{plain(), "\x10\x00\x12\x00\x00\x00\x0e\x01\x11\x70\x0a\xc4\x42\xf8\x00\x00\x00\x00" + "\x00\x00\x00\x00\x00\x00\x00\x09\x00\x00\x00\x00\x00\x00\x00\x00"},
		{
			info.Info{Params: api.Params{Rate: 1048575, Channels: 8, Depth: 32}, MinBlock: 65535, MaxBlock: 65535, MinFrame: 16777215, MaxFrame: 16777215, Total: 68719476735, Sum: [16]byte{255, 254, 13: 3, 2, 1}},
			"\xff\xff\xff\xff\xff\xff\xff\xff\xff\xff\xff\xff\xff\xff\xff\xff\xff\xff" + "\xff\xfe\x00\x00\x00\x00\x00\x00\x00\x00\x00\x00\x00\x03\x02\x01",
		},
		{
			info.Info{Params: api.Params{Rate: 0x12345, Channels: 6, Depth: 10}, MinBlock: 0x1234, MaxBlock: 0x5678, MinFrame: 0x9abcde, MaxFrame: 0xf12345, Total: 0x9_8765_4321, Sum: [16]byte{0, 1, 2, 3, 4, 5, 6, 7, 8, 9, 10, 11, 12, 13, 14, 15}},
			"\x12\x34\x56\x78\x9a\xbc\xde\xf1\x23\x45\x12\x34\x5a\x99\x87\x65\x43\x21" + "\x00\x01\x02\x03\x04\x05\x06\x07\x08\x09\x0a\x0b\x0c\x0d\x0e\x0f",
		},
	} {
		checks(t, c.i)
		if b, e := info.Write(c.i); string(b) != c.s || e != api.OK {
			t.Errorf("%+v: %x, error %d", c.i, b, int(e))
		}
		reads(t, []byte(c.s), c.i, api.OK)
	}
}

func TestEachNumberMayBeFromItsLeastToItsGreatest(t *testing.T) {
	for _, n := range numbers {
		near := []int{n.least, n.least + 1, n.most - 1, n.most, (n.least + n.most) / 2}
		for power := 1; power <= n.most; power *= 2 {
			near = append(near, max(n.least, power-1), max(n.least, power))
		}
		for _, x := range near {
			i := with(wide(), n, x)
			if e := info.Check(i); e != api.OK {
				t.Errorf("%s %d: error %d", n.name, x, int(e))
			}
			checks(t, i)
		}
	}
}

func TestEachNumberMayBeNoneBeyond(t *testing.T) {
	for _, n := range numbers {
		for _, x := range append([]int{n.least - 1, n.most + 1, n.least - 2, n.most + 2, -n.most, 2*n.most + 1}, farNumbers...) {
			for _, i := range []info.Info{with(wide(), n, x), with(plain(), n, x)} {
				if e := info.Check(i); e != api.ErrRange {
					t.Errorf("%s %d: error %d", n.name, x, int(e))
				}
				checks(t, i)
			}
		}
	}
}

func TestNumbersThatWouldBeRightInFewerBits(t *testing.T) {
	for _, n := range numbers {
		for _, x := range []int{1 << n.bits, 1 << 32, 1 << 36, 1 << 40} {
			if i := with(wide(), n, x+n.least); x+n.least > n.most {
				checks(t, i)
			}
		}
	}
}

func TestNothingIsNoInfo(t *testing.T) {
	if e := info.Check(info.Info{}); e != api.ErrRange {
		t.Error(int(e))
	}
	checks(t, info.Info{})
}

func TestAllChannelsAndDepths(t *testing.T) {
	for channels := -1; channels <= 17; channels++ {
		for depth := -1; depth <= 65; depth++ {
			i := plain()
			i.Channels, i.Depth = channels, depth
			checks(t, i)
		}
	}
}

func TestBlocksAreInOrder(t *testing.T) {
	l := []int{15, 16, 17, 255, 256, 4095, 4096, 65534, 65535, 65536}
	for _, least := range l {
		for _, most := range l {
			i := plain()
			i.MinBlock, i.MaxBlock = least, most
			checks(t, i)
			want := api.ErrRange
			if 16 <= least && least <= most && most <= 65535 {
				want = api.OK
			}
			if e := info.Check(i); e != want {
				t.Errorf("%d to %d: error %d", least, most, int(e))
			}
		}
	}
}

func TestFramesAreInOrderWhereBothAreKnown(t *testing.T) {
	for _, c := range []struct {
		least, most int
		e           api.Errno
	}{
		{0, 0, api.OK},
		{0, 1, api.OK},
		{1, 0, api.OK},
		{1, 1, api.OK},
		{2, 1, api.ErrRange},
		{1, 2, api.OK},
		{16777215, 0, api.OK},
		{0, 16777215, api.OK},
		{16777215, 16777215, api.OK},
		{16777215, 16777214, api.ErrRange},
		{16777215, 1, api.ErrRange},
		{16777216, 0, api.ErrRange},
		{0, 16777216, api.ErrRange},
		{16777216, 16777216, api.ErrRange},
		{-1, 0, api.ErrRange},
		{0, -1, api.ErrRange},
		{-1, 1, api.ErrRange},
		{-2, -1, api.ErrRange},
		{256, 255, api.ErrRange},
		{65536, 65535, api.ErrRange},
		{65535, 65536, api.OK},
	} {
		i := plain()
		i.MinFrame, i.MaxFrame = c.least, c.most
		checks(t, i)
		if e := info.Check(i); e != c.e {
			t.Errorf("%d to %d: error %d, not %d", c.least, c.most, int(e), int(c.e))
		}
	}
}

func TestAnySumMayBe(t *testing.T) {
	rng := rand.New(rand.NewSource(1))
	for at := range 16 {
		for x := range 256 {
			i := plain()
			i.Sum = [16]byte{}
			i.Sum[at] = byte(x)
			checks(t, i)
			rng.Read(i.Sum[:])
			checks(t, i)
		}
	}
}

func TestWritesAnyInfo(t *testing.T) {
	rng := rand.New(rand.NewSource(2))
	for range 20000 {
		i := randomInfo(rng)
		if e := info.Check(i); e != api.OK {
			t.Fatalf("%+v: error %d", i, int(e))
		}
		checks(t, i)
		// One number, or two, that may not be, or may.
		for range 2 {
			n := numbers[rng.Intn(len(numbers))]
			i = with(i, n, some(rng, n.least-1, n.least, n.most, n.most+1, 0, -1, 1, farNumbers[rng.Intn(len(farNumbers))]))
			checks(t, i)
		}
	}
}

func TestWhatIsWrittenIsTheCallers(t *testing.T) {
	b, _ := info.Write(plain())
	for k := range b[:cap(b)] {
		b[:cap(b)][k] = 0x77
	}
	if c, e := info.Write(plain()); !bytes.Equal(c, writtenOf(plain())) || e != api.OK {
		t.Errorf("%x, error %d", c, int(e))
	}
}
