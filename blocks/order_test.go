package blocks_test

import (
	"bytes"
	"math"
	"math/rand"
	"slices"
	"testing"

	"jetsam/api"
	"jetsam/blocks"
)

// P12.2.

func TestBlocksInOrder(t *testing.T) {
	orders(t, api.OK, info())
	orders(t, api.OK, info(), block(1, ""), block(1, zeros(300)), block(2, "name"), block(2, "name and more"), block(3, zeros(36)), block(4, "any"), block(5, ""), block(5, "x"), block(6, ""), block(6, ""))
	orders(t, api.OK, block(0, "abcdefghijklmnopqrstuvwxyz01234567"), block(3, ""))
	// The others may stand in any order, and as often as they like.
	orders(t, api.OK, info(), block(6, ""), block(4, ""), block(3, ""), block(2, "abcd"), block(1, ""))
	orders(t, api.OK, info(), block(7, "x"), block(7, "x"), block(126, ""), block(126, ""))
}

func TestTheFirstOneIsAnInfo(t *testing.T) {
	orders(t, api.ErrNone)
	orders(t, api.ErrNone, []blocks.Block{}...)
	for kind := 1; kind < 300; kind++ {
		orders(t, api.ErrNone, block(kind, zeros(34)))
		orders(t, api.ErrNone, block(kind, zeros(36)), info())
	}
	for _, kind := range append([]int{-1, math.MaxInt, 128, 256}, farNumbers...) {
		orders(t, api.ErrNone, block(kind, zeros(34)), info())
	}
}

func TestTwoOfInfoOfSeekAndOfComment(t *testing.T) {
	for kind := range 130 {
		want := api.OK
		if kind == 0 || kind == 3 || kind == 4 {
			want = api.ErrMany
		}
		k := block(kind, zeros(36))
		if kind == 0 {
			k = info()
		}
		orders(t, want, info(), k, k)
		orders(t, want, info(), k, block(6, ""), k)
		orders(t, want, info(), block(6, ""), k, block(1, ""), block(2, "abcd"), k, k)
	}
	orders(t, api.ErrMany, info(), info())
	orders(t, api.ErrMany, info(), block(1, ""), info())
	// One of each is not two.
	orders(t, api.OK, info(), block(4, ""), block(3, ""))
	orders(t, api.OK, info(), block(3, ""), block(4, ""))
}

func TestInfoHas34Bytes(t *testing.T) {
	for n := range 80 {
		want := api.ErrRange
		if n == 34 {
			want = api.OK
		}
		orders(t, want, block(0, zeros(n)))
		orders(t, want, block(0, zeros(n)), block(1, ""))
	}
	orders(t, api.ErrRange, block(0, zeros(34+256)))
}

func TestPaddingIsAll0(t *testing.T) {
	for _, n := range []int{1, 2, 3, 100, 4096} {
		orders(t, api.OK, info(), block(1, zeros(n)))
		for _, at := range []int{0, n / 2, n - 1} {
			for _, x := range []byte{1, 32, 128, 255} {
				data := make([]byte, n)
				data[at] = x
				orders(t, api.ErrForm, info(), blocks.Block{Type: 1, Data: data})
				orders(t, api.ErrForm, info(), block(1, ""), block(1, zeros(9)), blocks.Block{Type: 1, Data: data}, block(6, ""))
				// Of another type they may be so.
				orders(t, api.OK, info(), blocks.Block{Type: 7, Data: data})
			}
		}
	}
}

func TestAppHasAName(t *testing.T) {
	for n := range 9 {
		want := api.OK
		if n < 4 {
			want = api.ErrForm
		}
		orders(t, want, info(), block(2, zeros(n)))
		orders(t, want, info(), block(2, "abcd"), block(2, zeros(n)))
	}
}

func TestSeekIsWholePoints(t *testing.T) {
	for n := range 100 {
		want := api.ErrForm
		if n == 0 || n == 18 || n == 36 || n == 54 || n == 72 || n == 90 {
			want = api.OK
		}
		orders(t, want, info(), block(3, zeros(n)))
		orders(t, want, info(), block(6, ""), block(3, zeros(n)), block(1, ""))
	}
	// What the points are does not count here.
	orders(t, api.OK, info(), block(3, "\x80 eighteen of them"))
}

func TestSeveralReasonsInTheirOrder(t *testing.T) {
	none, many, short, form := block(1, ""), block(4, ""), block(0, zeros(33)), block(1, "x")
	orders(t, api.ErrNone, none, many, many, short, form)
	orders(t, api.ErrNone, form, info(), info(), short)
	orders(t, api.ErrMany, short, form, many, many)
	orders(t, api.ErrMany, info(), form, many, many)
	orders(t, api.ErrMany, info(), form, short)
	orders(t, api.ErrMany, short, info())
	orders(t, api.ErrRange, short, form)
	orders(t, api.ErrRange, short, block(2, ""), block(3, "x"))
	orders(t, api.ErrForm, info(), block(3, "x"), block(2, ""), form)
	orders(t, api.ErrMany, info(), block(3, "x"), block(3, "x"))
}

func TestOrderOfAnyBlocks(t *testing.T) {
	rng := rand.New(rand.NewSource(6))
	told := map[api.Errno]int{}
	for range 60000 {
		var l []blocks.Block
		if rng.Intn(9) > 0 {
			l = append(l, block(0, zeros(some(rng, 34, 34, 34, 34, 34, 33, 35, 0))))
		}
		for range rng.Intn(6) {
			k := block(some(rng, 1, 1, 1, 2, 2, 3, 4, 5, 6, 7, 126, 127, -1, 0), zeros(some(rng, 0, 4, 18, 36, 72, rng.Intn(40))))
			if len(k.Data) > 0 && rng.Intn(3) == 0 {
				k.Data[rng.Intn(len(k.Data))] = byte(rng.Intn(256))
			}
			l = append(l, k)
		}
		want := orderOf(l)
		orders(t, want, l...)
		told[want]++
	}
	for _, e := range []api.Errno{api.OK, api.ErrNone, api.ErrMany, api.ErrRange, api.ErrForm} {
		if told[e] < 1000 {
			t.Error(told)
		}
	}
}

func TestZeros(t *testing.T) {
	for _, n := range []int{0, 1, 2, 255, 256, 65536, 1<<24 - 2, 1<<24 - 1} {
		k, e := blocks.Zeros(n)
		if k.Type != blocks.Padding || len(k.Data) != n || e != api.OK || string(k.Data) != zeros(n) {
			t.Error(n, k.Type, len(k.Data), int(e))
		}
		orders(t, api.OK, info(), k)
		writes(t, api.OK, k)
	}
	for _, n := range append([]int{-1, 1 << 24, 1<<24 + 1, 1 << 32, math.MaxInt}, farNumbers...) {
		if k, e := blocks.Zeros(n); k.Type != 0 || k.Data != nil || e != api.ErrRange {
			t.Error(n, k, int(e))
		}
	}
}

func TestZerosAreTheCallers(t *testing.T) {
	a, _ := blocks.Zeros(3)
	a.Data[1] = 7
	if b, e := blocks.Zeros(3); string(b.Data) != zeros(3) || e != api.OK {
		t.Error(b, int(e))
	}
}

func TestName(t *testing.T) {
	for _, c := range []struct{ data, name, rest string }{
		{"abcd", "abcd", ""},
		{"abcde", "abcd", "e"},
		{"\x00\xff\x80\x01\x00", "\x00\xff\x80\x01", "\x00"},
		{"riffRIFF and more", "riff", "RIFF and more"},
	} {
		data := roomy([]byte(c.data))
		check := untouched(t, data)
		s, b, e := blocks.Name(blocks.Block{Type: blocks.App, Data: data})
		check()
		if s != c.name || string(b) != c.rest || e != api.OK {
			t.Errorf("%q: %q, %q, error %d", c.data, s, b, int(e))
		}
	}
}

func TestNameOfWhatHasNone(t *testing.T) {
	nothing := func(want api.Errno, k blocks.Block) {
		t.Helper()
		if s, b, e := blocks.Name(k); s != "" || len(b) != 0 || e != want {
			t.Errorf("%v: %q, %q, error %d, not %d", k, s, b, int(e), int(want))
		}
	}
	for n := range 4 {
		nothing(api.ErrEnd, block(2, zeros(n)))
		nothing(api.ErrCode, block(1, zeros(n)))
	}
	nothing(api.ErrEnd, blocks.Block{Type: 2})
	for _, kind := range slices.Concat([]int{-1, 0, 1, 3, 4, 5, 6, 7, 126, 127, 130, 258, math.MaxInt}, farNumbers) {
		nothing(api.ErrCode, block(kind, "abcdef"))
	}
}

func TestWhatStandsBehindANameIsTheCallers(t *testing.T) {
	data := []byte("abcdefgh")
	_, b, _ := blocks.Name(blocks.Block{Type: 2, Data: data[:6]})
	copy(b, "xx")
	_ = append(b, "yy"...)
	if string(data) != "abcdefgh" {
		t.Errorf("%q", data)
	}
	s, b, _ := blocks.Name(blocks.Block{Type: 2, Data: data})
	clear(data)
	if s != "abcd" || !bytes.Equal(b, []byte("efgh")) {
		t.Errorf("%q, %q", s, b)
	}
}
