package bits_test

import (
	"bytes"
	"math/rand"
	"testing"

	"jetsam/api"
	"jetsam/bits"
)

// written is one thing that was written, to be read again.
type written struct {
	call, n, v int
	bytes      []byte
}

const (
	callPut = iota
	callSigned
	callUnary
	callAlign
	callAppend
	calls
)

// randomThing is one, with numbers of all sizes.
func randomThing(rng *rand.Rand) written {
	x := written{call: rng.Intn(calls), n: rng.Intn(49)}
	switch x.call {
	case callPut:
		x.v = int(rng.Int63() & (1<<x.n - 1))
	case callSigned:
		x.v = signedOf(randomDigits(rng, x.n))
	case callUnary:
		x.v = rng.Intn(1 << rng.Intn(12))
	case callAppend:
		x.bytes = make([]byte, rng.Intn(5))
		rng.Read(x.bytes)
	}
	return x
}

// write writes a thing; an Align's v becomes how many noughts there were.
func write(t *testing.T, w *bits.Writer, x *written) {
	t.Helper()
	e := api.OK
	switch x.call {
	case callPut:
		e = w.Put(x.n, x.v)
	case callSigned:
		e = w.Signed(x.n, x.v)
	case callUnary:
		e = w.Unary(x.v)
	case callAlign:
		x.v = w.Align()
	case callAppend:
		w.Append(x.bytes)
	}
	if e != api.OK {
		t.Fatal(*x, int(e))
	}
}

// read reads what a thing was written as.
func read(t *testing.T, r *bits.Reader, x written) {
	t.Helper()
	v, e := 0, api.OK
	switch x.call {
	case callPut:
		v, e = r.Take(x.n)
	case callSigned:
		v, e = r.Signed(x.n)
	case callUnary:
		v, e = r.Unary()
	case callAlign:
		v, e = r.Align()
	case callAppend:
		for _, b := range x.bytes {
			if v, e := r.Take(8); v != int(b) || e != api.OK {
				t.Fatal(x, v, int(e))
			}
		}
	}
	if v != x.v || e != api.OK {
		t.Fatal(x, v, int(e))
	}
}

func TestWhatIsWrittenIsReadAsItWas(t *testing.T) {
	rng := rand.New(rand.NewSource(3))
	for range 300 {
		w := bits.NewWriter()
		l := make([]written, rng.Intn(60))
		ends := make([]int, len(l))
		for i := range l {
			l[i] = randomThing(rng)
			write(t, w, &l[i])
			ends[i] = w.Len()
		}
		r := bits.NewReader(w.Bytes())
		for i, x := range l {
			read(t, r, x)
			if r.At() != ends[i] {
				t.Fatal(x, r.At(), ends[i])
			}
		}
		if n, e := r.Align(); n != r.At()-w.Len() || e != api.OK || r.Left() != 0 {
			t.Fatal(n, int(e), r.Left())
		}
	}
}

func TestSmallNumbersAreReadAsTheyWere(t *testing.T) {
	w := bits.NewWriter()
	for n := range 10 {
		for v := range 1 << n {
			w.Put(n, v)
			w.Signed(n, v-1<<n/2)
			w.Unary(v)
		}
	}
	r := bits.NewReader(w.Bytes())
	for n := range 10 {
		for v := range 1 << n {
			a, e := r.Take(n)
			b, f := r.Signed(n)
			c, g := r.Unary()
			if a != v || b != v-1<<n/2 || c != v || e != api.OK || f != api.OK || g != api.OK {
				t.Fatal(n, v, a, b, c, int(e), int(f), int(g))
			}
		}
	}
	if r.At() != w.Len() {
		t.Error(r.At(), w.Len())
	}
}

func TestBytesThatAreReadBitByBitAreTheBytes(t *testing.T) {
	b := make([]byte, 1000)
	rand.New(rand.NewSource(4)).Read(b)
	for _, n := range []int{1, 2, 4, 5, 8, 10, 16, 20, 25, 32, 40} {
		r, w, s := bits.NewReader(b), bits.NewWriter(), bits.NewWriter()
		for r.Left() > 0 {
			at := r.At()
			v, e := r.Take(n)
			f := w.Put(n, v)
			r.Seek(at)
			x, g := r.Signed(n)
			h := s.Signed(n, x)
			if e != api.OK || f != api.OK || g != api.OK || h != api.OK {
				t.Fatal(n, at, int(e), int(f), int(g), int(h))
			}
		}
		if !bytes.Equal(w.Bytes(), b) || !bytes.Equal(s.Bytes(), b) {
			t.Error("others, by", n)
		}
	}
}

func TestBytesThatAreReadAsUnaryNumbersAreTheBytes(t *testing.T) {
	b := make([]byte, 1000)
	rand.New(rand.NewSource(5)).Read(b)
	b = append(b, 1)
	r, w := bits.NewReader(b), bits.NewWriter()
	for r.Left() > 0 {
		n, e := r.Unary()
		if f := w.Unary(n); e != api.OK || f != api.OK {
			t.Fatal(int(e), int(f))
		}
	}
	if !bytes.Equal(w.Bytes(), b) {
		t.Error("others")
	}
}
