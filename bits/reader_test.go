package bits_test

import (
	"bytes"
	"math"
	"math/rand"
	"strings"
	"testing"

	"jetsam/api"
	"jetsam/bits"
)

var wrongWidths = []int{-1, 49, -48, 64, 1 << 32, math.MinInt, math.MaxInt}

// stands tells how many bits must be behind, and ahead.
func stands(t *testing.T, r *bits.Reader, at, left int) {
	t.Helper()
	if r.At() != at || r.Left() != left {
		t.Errorf("stands at %d with %d left, not at %d with %d", r.At(), r.Left(), at, left)
	}
}

func TestReadsTheExample(t *testing.T) {
	r := bits.NewReader([]byte{0xa5})
	if v, e := r.Take(3); v != 5 || e != api.OK {
		t.Error(v, int(e))
	}
	if v, e := r.Signed(2); v != 0 || e != api.OK {
		t.Error(v, int(e))
	}
	if v, e := r.Unary(); v != 0 || e != api.OK {
		t.Error(v, int(e))
	}
	if v, e := r.Take(2); v != 1 || e != api.OK {
		t.Error(v, int(e))
	}
	stands(t, r, 8, 0)
}

func TestTakesEachNumberAtEachPlace(t *testing.T) {
	s := randomDigits(rand.New(rand.NewSource(1)), 80)
	for at := range 81 {
		for n := range 49 {
			r := readerAt(t, s, at)
			v, e := r.Take(n)
			u := readerAt(t, s, at)
			x, f := u.Signed(n)
			if at+n > 80 {
				if v != 0 || e != api.ErrEnd || x != 0 || f != api.ErrEnd {
					t.Fatal(at, n, v, int(e), x, int(f))
				}
				stands(t, r, at, 80-at)
				stands(t, u, at, 80-at)
				continue
			}
			part := s[at : at+n]
			if v != numberOf(t, part) || e != api.OK || x != signedOf(part) || f != api.OK {
				t.Fatal(at, n, v, int(e), x, int(f))
			}
			stands(t, r, at+n, 80-at-n)
			stands(t, u, at+n, 80-at-n)
		}
	}
}

func TestTakesTheGreatestAndLeast(t *testing.T) {
	for n := 1; n <= 48; n++ {
		for _, c := range []struct {
			digits        string
			plain, signed int
		}{
			{strings.Repeat("1", n), 1<<n - 1, -1},
			{strings.Repeat("0", n), 0, 0},
			{"1" + strings.Repeat("0", n-1), 1 << (n - 1), -1 << (n - 1)},
			{"0" + strings.Repeat("1", n-1), 1<<(n-1) - 1, 1<<(n-1) - 1},
		} {
			for _, at := range []int{0, 3} {
				s := "101"[:at] + c.digits
				if v, e := readerAt(t, s, at).Take(n); v != c.plain || e != api.OK {
					t.Error(n, at, c.digits, v, int(e))
				}
				if v, e := readerAt(t, s, at).Signed(n); v != c.signed || e != api.OK {
					t.Error(n, at, c.digits, v, int(e))
				}
			}
		}
	}
}

func TestTakesNoWrongWidth(t *testing.T) {
	for _, b := range [][]byte{nil, {0xff}, bytes.Repeat([]byte{0xff}, 20)} {
		for at := 0; at <= 8*len(b); at++ {
			r := bits.NewReader(b)
			r.Seek(at)
			for _, n := range wrongWidths {
				if v, e := r.Take(n); v != 0 || e != api.ErrArg {
					t.Error(at, n, v, int(e))
				}
				if v, e := r.Signed(n); v != 0 || e != api.ErrArg {
					t.Error(at, n, v, int(e))
				}
			}
			stands(t, r, at, 8*len(b)-at)
		}
	}
}

func TestReadsUnaryNumbers(t *testing.T) {
	for at := range 17 {
		for n := range 40 {
			// What is behind, and ahead of it, is ones: neither may be taken for its own.
			s := strings.Repeat("1", at) + unaryOf(n) + "1"
			r := readerAt(t, s, at)
			if v, e := r.Unary(); v != n || e != api.OK || r.At() != at+n+1 {
				t.Fatal(at, n, v, int(e), r.At())
			}
		}
	}
	for _, n := range []int{65535, 65536, 65537, 200000} {
		for _, at := range []int{0, 5} {
			r := readerAt(t, strings.Repeat("1", at)+unaryOf(n), at)
			if v, e := r.Unary(); v != n || e != api.OK || r.At() != at+n+1 {
				t.Error(at, n, v, int(e), r.At())
			}
		}
	}
}

func TestReadsNoUnaryNumberWithoutAOne(t *testing.T) {
	for size := range 4 {
		for at := range 8*size + 1 {
			s := strings.Repeat("1", at) + strings.Repeat("0", 8*size-at)
			r := readerAt(t, s, at)
			if v, e := r.Unary(); v != 0 || e != api.ErrEnd {
				t.Error(size, at, v, int(e))
			}
			stands(t, r, at, 8*size-at)
		}
	}
}

func TestAlignsOverNoughtsAlone(t *testing.T) {
	for at := range 17 {
		pad := (16 - at) % 8
		// Ones stand everywhere but in the bits that it goes over.
		clean := strings.Repeat("1", at) + strings.Repeat("0", pad) + strings.Repeat("1", 16-at-pad)
		r := readerAt(t, clean, at)
		if n, e := r.Align(); n != pad || e != api.OK {
			t.Error(at, n, int(e))
		}
		stands(t, r, at+pad, 16-at-pad)
		if n, e := r.Align(); n != 0 || e != api.OK {
			t.Error(at, n, int(e))
		}
		for one := at; one < at+pad; one++ {
			s := strings.Repeat("0", one) + "1" + strings.Repeat("0", 15-one)
			r := readerAt(t, s, at)
			if n, e := r.Align(); n != 0 || e != api.ErrForm {
				t.Error(at, one, n, int(e))
			}
			stands(t, r, at, 16-at)
		}
	}
}

func TestSeeksPlacesThatThereAre(t *testing.T) {
	for size := range 4 {
		r := bits.NewReader(bytes.Repeat([]byte{0x5a}, size))
		stands(t, r, 0, 8*size)
		for at := 8 * size; at >= 0; at-- {
			if e := r.Seek(at); e != api.OK {
				t.Error(size, at, int(e))
			}
			stands(t, r, at, 8*size-at)
			for _, wrong := range []int{-1, 8*size + 1, math.MinInt, math.MaxInt} {
				if e := r.Seek(wrong); e != api.ErrRange {
					t.Error(size, wrong, int(e))
				}
			}
			stands(t, r, at, 8*size-at)
		}
	}
}

func TestReadsNothingOfNothing(t *testing.T) {
	for _, b := range [][]byte{nil, {}} {
		r := bits.NewReader(b)
		if r == nil {
			t.Fatal("no Reader")
		}
		if v, e := r.Take(0); v != 0 || e != api.OK {
			t.Error(v, int(e))
		}
		if v, e := r.Signed(0); v != 0 || e != api.OK {
			t.Error(v, int(e))
		}
		if v, e := r.Take(1); v != 0 || e != api.ErrEnd {
			t.Error(v, int(e))
		}
		if v, e := r.Signed(1); v != 0 || e != api.ErrEnd {
			t.Error(v, int(e))
		}
		if v, e := r.Unary(); v != 0 || e != api.ErrEnd {
			t.Error(v, int(e))
		}
		if v, e := r.Align(); v != 0 || e != api.OK {
			t.Error(v, int(e))
		}
		if e := r.Seek(0); e != api.OK {
			t.Error(int(e))
		}
		stands(t, r, 0, 0)
	}
}

func TestNilReader(t *testing.T) {
	var r *bits.Reader
	for _, n := range append([]int{0, 1, 48}, wrongWidths...) {
		if v, e := r.Take(n); v != 0 || e != api.ErrNil {
			t.Error(n, v, int(e))
		}
		if v, e := r.Signed(n); v != 0 || e != api.ErrNil {
			t.Error(n, v, int(e))
		}
		if e := r.Seek(n); e != api.ErrNil {
			t.Error(n, int(e))
		}
	}
	if v, e := r.Unary(); v != 0 || e != api.ErrNil {
		t.Error(v, int(e))
	}
	if v, e := r.Align(); v != 0 || e != api.ErrNil {
		t.Error(v, int(e))
	}
	stands(t, r, 0, 0)
}

func TestReadsWhatWasHandedInThen(t *testing.T) {
	all := []byte{1, 2, 3, 4}
	r := bits.NewReader(all[:2])
	stands(t, r, 0, 16)
	all[0], all[1], all[2] = 0xff, 0xff, 0xff
	if v, e := r.Take(16); v != 0x0102 || e != api.OK {
		t.Error(v, int(e))
	}
	r.Seek(0)
	r.Unary()
	r.Align()
	if !bytes.Equal(all, []byte{0xff, 0xff, 0xff, 4}) {
		t.Error("written into what was handed in:", all)
	}
}

func TestReadersDoNotHangOnEachOther(t *testing.T) {
	b := []byte{0xa5, 0x5a}
	r, u := bits.NewReader(b), bits.NewReader(b)
	r.Take(9)
	stands(t, u, 0, 16)
	if v, e := u.Take(8); v != 0xa5 || e != api.OK {
		t.Error(v, int(e))
	}
	stands(t, r, 9, 7)
}
