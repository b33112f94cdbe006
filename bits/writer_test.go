package bits_test

import (
	"bytes"
	"math"
	"math/rand"
	"strings"
	"testing"

	"jetsam/api"
	"jetsam/bits"
)

// holds tells which bits a Writer must have.
func holds(t *testing.T, w *bits.Writer, s string) {
	t.Helper()
	if w.Len() != len(s) || !bytes.Equal(w.Bytes(), bytesOf(t, s)) {
		t.Errorf("%d bits, %s, not %d, %s", w.Len(), digitsOf(w.Bytes()), len(s), s)
	}
}

func TestWritesTheExample(t *testing.T) {
	w := bits.NewWriter()
	if e, f := w.Put(3, 5), w.Unary(2); e != api.OK || f != api.OK {
		t.Error(int(e), int(f))
	}
	if b := w.Bytes(); !bytes.Equal(b, []byte{0xa4}) {
		t.Error(b)
	}
}

func TestPutsEachNumberAtEachPlace(t *testing.T) {
	rng := rand.New(rand.NewSource(2))
	for at := range 17 {
		for n := range 49 {
			before, part, after := randomDigits(rng, at), randomDigits(rng, n), randomDigits(rng, 3)
			w := writerOf(t, before)
			if e := w.Put(n, numberOf(t, part)); e != api.OK {
				t.Error(at, n, int(e))
			}
			holds(t, w, before+part)
			w.Put(3, numberOf(t, after))
			holds(t, w, before+part+after)

			w = writerOf(t, before)
			if e := w.Signed(n, signedOf(part)); e != api.OK {
				t.Error(at, n, int(e))
			}
			holds(t, w, before+part)
			w.Put(3, numberOf(t, after))
			holds(t, w, before+part+after)
		}
	}
}

func TestPutsTheGreatestAndLeast(t *testing.T) {
	for n := 1; n <= 48; n++ {
		ones, noughts := strings.Repeat("1", n-1), strings.Repeat("0", n-1)
		w := bits.NewWriter()
		if e, f := w.Put(n, 1<<n-1), w.Put(n, 0); e != api.OK || f != api.OK {
			t.Error(n, int(e), int(f))
		}
		holds(t, w, "1"+ones+"0"+noughts)
		w = bits.NewWriter()
		if e, f := w.Signed(n, -1<<(n-1)), w.Signed(n, 1<<(n-1)-1); e != api.OK || f != api.OK {
			t.Error(n, int(e), int(f))
		}
		holds(t, w, "1"+noughts+"0"+ones)
	}
}

func TestPutsNoNumberThatIsNone(t *testing.T) {
	for at := range 9 {
		before := strings.Repeat("1", at)
		w := writerOf(t, before)
		for n := range 49 {
			for _, v := range []int{-1, 1 << n, 1<<n + 1, math.MinInt, math.MaxInt} {
				if e := w.Put(n, v); e != api.ErrRange {
					t.Error(at, n, v, int(e))
				}
			}
			least, most := 0, 0
			if n > 0 {
				least, most = -1<<(n-1), 1<<(n-1)-1
			}
			for _, v := range []int{least - 1, most + 1, math.MinInt, math.MaxInt} {
				if e := w.Signed(n, v); e != api.ErrRange {
					t.Error(at, n, v, int(e))
				}
			}
		}
		holds(t, w, before)
	}
}

func TestPutsNoWrongWidth(t *testing.T) {
	for at := range 9 {
		before := strings.Repeat("1", at)
		w := writerOf(t, before)
		for _, n := range wrongWidths {
			for _, v := range []int{0, 1, -1, math.MinInt, math.MaxInt} {
				if e := w.Put(n, v); e != api.ErrArg {
					t.Error(at, n, v, int(e))
				}
				if e := w.Signed(n, v); e != api.ErrArg {
					t.Error(at, n, v, int(e))
				}
			}
		}
		holds(t, w, before)
	}
}

func TestPutsNothingOfNoBits(t *testing.T) {
	for at := range 9 {
		before := strings.Repeat("1", at)
		w := writerOf(t, before)
		if e, f := w.Put(0, 0), w.Signed(0, 0); e != api.OK || f != api.OK {
			t.Error(at, int(e), int(f))
		}
		holds(t, w, before)
	}
}

func TestWritesUnaryNumbers(t *testing.T) {
	for at := range 9 {
		before := strings.Repeat("1", at)
		for _, n := range []int{0, 1, 2, 6, 7, 8, 9, 15, 16, 17, 100, 65535, 65536} {
			w := writerOf(t, before)
			if e := w.Unary(n); e != api.OK {
				t.Error(at, n, int(e))
			}
			holds(t, w, before+unaryOf(n))
		}
		w := writerOf(t, before)
		for _, n := range []int{-1, 65537, math.MinInt, math.MaxInt} {
			if e := w.Unary(n); e != api.ErrRange {
				t.Error(at, n, int(e))
			}
		}
		holds(t, w, before)
	}
}

func TestAlignWritesNoughts(t *testing.T) {
	for at := range 17 {
		before := strings.Repeat("1", at)
		w := writerOf(t, before)
		pad := (16 - at) % 8
		if n := w.Align(); n != pad {
			t.Error(at, n)
		}
		holds(t, w, before+strings.Repeat("0", pad))
		if n := w.Align(); n != 0 {
			t.Error(at, n)
		}
		w.Put(1, 1)
		holds(t, w, before+strings.Repeat("0", pad)+"1")
	}
}

func TestAppendsBytes(t *testing.T) {
	for at := range 17 {
		before := strings.Repeat("10", at)[:at]
		all := []byte{0xff, 0x00, 0xa5, 0x12, 0x77}
		w := writerOf(t, before)
		w.Append()
		w.Append(nil, []byte{})
		holds(t, w, before)
		w.Append(all[:2], nil, all[2:3], all[3:4])
		holds(t, w, before+digitsOf(all[:4]))
		all[0], all[3] = 0, 0
		w.Put(2, 2)
		holds(t, w, before+digitsOf([]byte{0xff, 0x00, 0xa5, 0x12})+"10")
		if !bytes.Equal(all, []byte{0, 0, 0xa5, 0, 0x77}) {
			t.Error("written into what was handed in:", all)
		}
	}
}

func TestBytesAreTheCallers(t *testing.T) {
	for at := 1; at < 18; at++ {
		before := strings.Repeat("1", at)
		w := writerOf(t, before)
		b := w.Bytes()
		holds(t, w, before)
		w.Put(4, 15)
		if !bytes.Equal(b, bytesOf(t, before)) {
			t.Error("changed by what was written later:", at, b)
		}
		clear(b[:cap(b)])
		w.Bytes()[0] = 0
		holds(t, w, before+"1111")
	}
}

func TestWritersDoNotHangOnEachOther(t *testing.T) {
	w, u := bits.NewWriter(), bits.NewWriter()
	if w == nil || u == nil {
		t.Fatal("no Writer")
	}
	w.Put(5, 21)
	holds(t, u, "")
	u.Put(1, 0)
	holds(t, w, "10101")
}

func TestNilWriter(t *testing.T) {
	var w *bits.Writer
	for _, n := range append([]int{0, 1, 48}, wrongWidths...) {
		for _, v := range []int{0, 1, -1, math.MinInt, math.MaxInt} {
			if e := w.Put(n, v); e != api.ErrNil {
				t.Error(n, v, int(e))
			}
			if e := w.Signed(n, v); e != api.ErrNil {
				t.Error(n, v, int(e))
			}
		}
		if e := w.Unary(n); e != api.ErrNil {
			t.Error(n, int(e))
		}
	}
	w.Append()
	w.Append([]byte{1})
	if w.Align() != 0 || w.Len() != 0 || len(w.Bytes()) != 0 {
		t.Error(w.Align(), w.Len(), w.Bytes())
	}
}
