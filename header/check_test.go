package header_test

import (
	"bytes"
	"math/rand"
	"slices"
	"testing"

	"jetsam/api"
	"jetsam/header"
)

// P8.1.

// plain is a header in which nothing is wrong.
func plain() header.Header {
	return header.Header{BlockCode: 12, RateCode: 9, Mode: 10, DepthCode: 4, Block: 4096, Rate: 44100, Depth: 16}
}

// checks tells that Check answers an error, and Write too, or bytes.
func checks(t *testing.T, want api.Errno, h header.Header) {
	t.Helper()
	if e := header.Check(h); e != want {
		t.Fatalf("%+v: error %d, not %d", h, int(e), int(want))
	}
	b, e := header.Write(h)
	if e != want || want != api.OK && len(b) != 0 {
		t.Fatalf("%+v: written: %x, error %d, not %d", h, b, int(e), int(want))
	}
	if want == api.OK && !bytes.Equal(b, written(t, h)) {
		t.Fatalf("%+v: written: %x, not %x", h, b, written(t, h))
	}
}

func TestChannels(t *testing.T) {
	for mode, want := range []int{1, 2, 3, 4, 5, 6, 7, 8, 2, 2, 2} {
		if n, e := header.Channels(mode); n != want || e != api.OK {
			t.Error(mode, n, int(e))
		}
	}
	for _, mode := range codesNear() {
		if n, e := header.Channels(mode); !isMode(mode) && (n != 0 || e != api.ErrCode) {
			t.Error(mode, n, int(e))
		}
	}
}

func TestWritesTheExample(t *testing.T) {
	checks(t, api.OK, plain())
	b, e := header.Write(plain())
	if !bytes.Equal(b, []byte{0xff, 0xf8, 0xc9, 0xa8, 0x00, 0x8d}) || e != api.OK {
		t.Errorf("%x, error %d", b, int(e))
	}
}

func TestWritesByHand(t *testing.T) {
	for _, c := range []struct {
		h header.Header
		s string
	}{
		{header.Header{Variable: true, BlockCode: 6, RateCode: 12, Number: 128, Block: 16, Rate: 7000}, "\xff\xf9\x6c\x00\xc2\x80\x0f\x07"},
		{header.Header{BlockCode: 6, RateCode: 0, Mode: 1, DepthCode: 1, Number: 127, Block: 1, Depth: 8}, "\xff\xf8\x60\x12\x7f\x00"},
		{header.Header{BlockCode: 6, RateCode: 1, Mode: 2, DepthCode: 2, Block: 256, Rate: 88200, Depth: 12}, "\xff\xf8\x61\x24\x00\xff"},
		{header.Header{BlockCode: 7, RateCode: 14, Mode: 7, DepthCode: 7, Number: 1, Block: 65535, Rate: 655350, Depth: 32}, "\xff\xf8\x7e\x7e\x01\xff\xfe\xff\xff"},
		{header.Header{BlockCode: 7, RateCode: 13, Mode: 8, DepthCode: 5, Number: 1<<31 - 1, Block: 1, Rate: 65535, Depth: 20}, "\xff\xf8\x7d\x8a\xfd\xbf\xbf\xbf\xbf\xbf\x00\x00\xff\xff"},
		{header.Header{Variable: true, BlockCode: 7, RateCode: 13, Mode: 9, DepthCode: 6, Number: 1<<36 - 1, Block: 258, Rate: 258, Depth: 24}, "\xff\xf9\x7d\x9c\xfe\xbf\xbf\xbf\xbf\xbf\xbf\x01\x01\x01\x02"},
		{header.Header{BlockCode: 1, RateCode: 12, Mode: 10, Number: 2048, Block: 192, Rate: 255000}, "\xff\xf8\x1c\xa0\xe0\xa0\x80\xff"},
		{header.Header{BlockCode: 15, RateCode: 12, Block: 32768}, "\xff\xf8\xfc\x00\x00\x00"},
	} {
		checks(t, api.OK, c.h)
		if b, e := header.Write(c.h); !bytes.Equal(b, summed([]byte(c.s))) || e != api.OK {
			t.Errorf("%+v: %x, error %d", c.h, b, int(e))
		}
	}
}

func TestWritesAllCodes(t *testing.T) {
	for h := range allHeaders {
		checks(t, api.OK, h)
	}
}

func TestChecksCodesAndModes(t *testing.T) {
	for _, n := range codesNear() {
		for what := range 4 {
			h := plain()
			is := false
			switch what {
			case 0:
				h.BlockCode, is = n, isBlockCode(n)
			case 1:
				h.RateCode, is = n, isRateCode(n)
			case 2:
				h.Mode, is = n, isMode(n)
			case 3:
				h.DepthCode, is = n, isDepthCode(n)
			}
			want := checkOf(h)
			if is == (want == api.ErrCode) {
				t.Fatal(what, n, int(want))
			}
			checks(t, want, h)
			// What is wrong beside it comes behind.
			h.Number = -1
			checks(t, either(is, api.ErrRange, api.ErrCode), h)
			h.Block, h.Rate, h.Depth = 0, -1, 1
			checks(t, either(is, api.ErrRange, api.ErrCode), h)
		}
	}
}

func TestChecksNumbers(t *testing.T) {
	numbers := slices.Clone(farNumbers)
	for power := range 40 {
		numbers = append(numbers, 1<<power-1, 1<<power, 1<<power+1, -1<<power)
	}
	for _, n := range numbers {
		for _, variable := range []bool{false, true} {
			h := plain()
			h.Variable, h.Number = variable, n
			want := either(mayBe(variable, n), api.OK, api.ErrRange)
			checks(t, want, h)
			// A Block that its code does not tell comes behind it.
			h.Block++
			checks(t, either(want == api.ErrRange, api.ErrRange, api.ErrParam), h)
		}
	}
	for _, c := range []struct {
		variable bool
		n        int
		e        api.Errno
	}{{false, 1<<31 - 1, api.OK}, {false, 1 << 31, api.ErrRange}, {true, 1 << 31, api.OK}, {true, 1<<36 - 1, api.OK}, {true, 1 << 36, api.ErrRange}, {false, -1, api.ErrRange}, {true, -1, api.ErrRange}} {
		h := plain()
		h.Variable, h.Number = c.variable, c.n
		checks(t, c.e, h)
	}
}

func TestChecksBlocks(t *testing.T) {
	for code := 1; code <= 15; code++ {
		h := plain()
		h.BlockCode = code
		for n := -2; n <= 65540; n++ {
			h.Block = n
			if e := header.Check(h); e != checkOf(h) {
				t.Fatal(code, n, int(e))
			}
		}
		for _, n := range farNumbers {
			h.Block = n
			checks(t, api.ErrParam, h)
		}
		for _, n := range []int{0, 65536, 1 << 32, 1<<32 + 256} {
			h.Block = n
			checks(t, api.ErrParam, h)
		}
		for _, n := range someBlocks(code) {
			h.Block = n
			checks(t, api.OK, h)
		}
	}
}

func TestChecksRates(t *testing.T) {
	for code := range 15 {
		h := plain()
		h.RateCode = code
		for n := -2001; n <= 660000; n++ {
			h.Rate = n
			if e := header.Check(h); e != checkOf(h) {
				t.Fatal(code, n, int(e))
			}
		}
		for _, n := range append([]int{1 << 20, 1 << 32, 1<<32 + 44100, -10, -1000, -655350}, farNumbers...) {
			h.Rate = n
			checks(t, api.ErrParam, h)
		}
		for _, n := range someRates(code) {
			h.Rate = n
			checks(t, api.OK, h)
		}
	}
	for _, c := range []struct {
		code, n int
		e       api.Errno
	}{{0, 0, api.OK}, {0, 1, api.ErrParam}, {9, 0, api.ErrParam}, {12, 0, api.OK}, {13, 0, api.OK}, {14, 0, api.OK}, {12, 255000, api.OK}, {12, 256000, api.ErrParam}, {12, 500, api.ErrParam}, {13, 65535, api.OK}, {13, 65536, api.ErrParam}, {14, 655350, api.OK}, {14, 655360, api.ErrParam}, {14, 65535, api.ErrParam}} {
		h := plain()
		h.RateCode, h.Rate = c.code, c.n
		checks(t, c.e, h)
	}
}

func TestChecksDepths(t *testing.T) {
	for _, code := range []int{0, 1, 2, 4, 5, 6, 7} {
		for _, n := range codesNear() {
			h := plain()
			h.DepthCode, h.Depth = code, n
			checks(t, either(n == depthOf(code), api.OK, api.ErrParam), h)
		}
	}
}

func TestChecksAnyHeaders(t *testing.T) {
	rng := rand.New(rand.NewSource(1))
	seen := map[api.Errno]int{}
	for range 100000 {
		h := randomHeader(rng)
		for range rng.Intn(3) {
			at := rng.Intn(7)
			n := []int{rng.Intn(20) - 2, rng.Intn(70000), rng.Intn(1 << 38), -rng.Intn(1 << 38)}[rng.Intn(4)]
			*[]*int{&h.BlockCode, &h.RateCode, &h.Mode, &h.DepthCode, &h.Number, &h.Block, &h.Rate}[at] = n
		}
		want := checkOf(h)
		seen[want]++
		checks(t, want, h)
	}
	for _, e := range []api.Errno{api.OK, api.ErrCode, api.ErrRange, api.ErrParam} {
		if seen[e] < 1000 {
			t.Error("too few of the error", int(e), seen[e])
		}
	}
}

func TestWhatIsWrittenIsTheCallers(t *testing.T) {
	h := plain()
	a, _ := header.Write(h)
	a = append(a[:0], bytes.Repeat([]byte{7}, cap(a))...)
	if b, e := header.Write(h); !bytes.Equal(b, written(t, h)) || e != api.OK {
		t.Errorf("%x, %x, error %d", a, b, int(e))
	}
}
