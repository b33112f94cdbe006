package coded_test

import (
	"bytes"
	"math/rand"
	"testing"

	"jetsam/api"
	"jetsam/coded"
)

func TestGetOfWrongBytes(t *testing.T) {
	for _, c := range []struct {
		bytes string
		e     api.Errno
	}{
		{"", api.ErrEnd},
		// A first byte that is no code's, whatever is behind it.
		{"\x80", api.ErrForm},
		{"\xbf", api.ErrForm},
		{"\xbf\x80", api.ErrForm},
		{"\xff", api.ErrForm},
		{"\xff\x80\x80\x80\x80\x80\x80\x80", api.ErrForm},
		// Too few bytes.
		{"\xc2", api.ErrEnd},
		{"\xe0", api.ErrEnd},
		{"\xe0\xa0", api.ErrEnd},
		{"\xf0\x90\x80", api.ErrEnd},
		{"\xf8\x88\x80\x80", api.ErrEnd},
		{"\xfc\x84\x80\x80\x80", api.ErrEnd},
		{"\xfe", api.ErrEnd},
		{"\xfe\x82\x80\x80\x80\x80", api.ErrEnd},
		// Too few of a number that has a code of fewer: the end comes first.
		{"\xc0", api.ErrEnd},
		{"\xc1", api.ErrEnd},
		{"\xe0\x80", api.ErrEnd},
		{"\xfe\x80\x80\x80\x80\x80", api.ErrEnd},
		// A further byte that does not begin with 10, even where there are too few.
		{"\xc2\x00", api.ErrForm},
		{"\xc2\x7f", api.ErrForm},
		{"\xc2\xc0", api.ErrForm},
		{"\xc2\xff", api.ErrForm},
		{"\xe0\x00", api.ErrForm},
		{"\xe1\x80\x00", api.ErrForm},
		{"\xfe\x82\x80\x80\x80\x80\x40", api.ErrForm},
		{"\xfe\x82\x80\x80\x40", api.ErrForm},
		// A number that has a code of fewer bytes.
		{"\xc0\x80", api.ErrForm},
		{"\xc1\xbf", api.ErrForm},
		{"\xe0\x80\x80", api.ErrForm},
		{"\xe0\x9f\xbf", api.ErrForm},
		{"\xf0\x8f\xbf\xbf", api.ErrForm},
		{"\xf8\x87\xbf\xbf\xbf", api.ErrForm},
		{"\xfc\x83\xbf\xbf\xbf\xbf", api.ErrForm},
		{"\xfe\x81\xbf\xbf\xbf\xbf\xbf", api.ErrForm},
		{"\xfe\x80\x80\x80\x80\x80\x80", api.ErrForm},
	} {
		if g := get([]byte(c.bytes)); g != (got{e: c.e}) {
			t.Errorf("%x: %v", c.bytes, g)
		}
	}
	if g := get(nil); g != (got{e: api.ErrEnd}) {
		t.Error(g)
	}
}

func TestGetsEachFirstByteAsTheTextsSay(t *testing.T) {
	for v := range 256 {
		for _, behind := range []string{"", "\x80", "\xbf", "\x81\xbf", "\x00\x80\x80\x80\x80\x80\x80", "\x80\x80\x80\x80\x80\x80", "\xbf\xbf\xbf\xbf\xbf\xbf\xbf"} {
			b := append([]byte{byte(v)}, behind...)
			if g, want := get(b), getOf(t, b); g != want {
				t.Fatalf("%x: %v, not %v", b, g, want)
			}
		}
	}
}

func TestGetsAllPairsOfBytesAsTheTextsSay(t *testing.T) {
	for v := range 1 << 16 {
		b := []byte{byte(v >> 8), byte(v)}
		if g, want := get(b), getOf(t, b); g != want {
			t.Fatalf("%x: %v, not %v", b, g, want)
		}
	}
}

func TestGetsEachFurtherByteAsTheTextsSay(t *testing.T) {
	for size := 2; size <= 7; size++ {
		for at := 1; at < size; at++ {
			for v := range 256 {
				b := codeOf(t, 1<<power[size-1]-1)
				b[at] = byte(v)
				for end := at; end <= size; end++ {
					if g, want := get(b[:end]), getOf(t, b[:end]); g != want {
						t.Fatalf("%x: %v, not %v", b[:end], g, want)
					}
				}
			}
		}
	}
}

func TestGetsRandomBytesAsTheTextsSay(t *testing.T) {
	rng := rand.New(rand.NewSource(2))
	for range 100000 {
		b := randomBytes(rng, rng.Intn(10))
		for i := range b {
			// Most of the further ones begin with 10, so that long codes are found too.
			if i > 0 && rng.Intn(8) > 0 {
				b[i] = b[i]&0x3f | 0x80
			}
			if i == 0 {
				b[i] |= someOnes(rng)
			}
		}
		if g, want := get(b), getOf(t, b); g != want {
			t.Fatalf("%x: %v, not %v", b, g, want)
		}
	}
}

func TestEachNumberHasOneLengthAlone(t *testing.T) {
	rng := rand.New(rand.NewSource(3))
	for _, n := range append(edges(), randomNumber(rng), randomNumber(rng), randomNumber(rng)) {
		for size := sizeOf(n); size <= 7; size++ {
			want := got{e: api.ErrForm}
			if size == sizeOf(n) {
				want = got{n, size, api.OK}
			}
			if g := get(spread(t, n, size)); g != want {
				t.Fatalf("%d in %d bytes: %v, not %v", n, size, g, want)
			}
		}
	}
}

func TestACodeThatIsCutEnds(t *testing.T) {
	for _, n := range edges() {
		b := codeOf(t, n)
		for end := range b {
			// The rest stands behind the length: it does not count.
			if g := get(b[:end]); g != (got{e: api.ErrEnd}) {
				t.Fatalf("%x: %v", b[:end], g)
			}
		}
	}
}

func TestGetDoesNotWrite(t *testing.T) {
	rng := rand.New(rand.NewSource(4))
	for range 1000 {
		all := append(codeOf(t, randomNumber(rng)), randomBytes(rng, 4)...)
		before := bytes.Clone(all)
		b := all[:rng.Intn(len(all)+1)]
		g := get(b)
		if again := get(b); again != g {
			t.Fatal(g, again)
		}
		if !bytes.Equal(all, before) {
			t.Fatalf("%x, not %x", all, before)
		}
	}
}

// P3.3.

func TestGetOfPutIsTheNumber(t *testing.T) {
	rng := rand.New(rand.NewSource(5))
	for _, n := range numbers(rng) {
		b, e := coded.Put(n)
		if e != api.OK {
			t.Fatal(n, int(e))
		}
		want := got{n, len(b), api.OK}
		for _, behind := range [][]byte{nil, {0x00}, {0x80}, {0xbf}, {0xff}, b, randomBytes(rng, 9)} {
			if g := get(append(bytes.Clone(b), behind...)); g != want {
				t.Fatalf("%d with %x behind: %v, not %v", n, behind, g, want)
			}
		}
	}
}

func TestPutOfGetIsTheBytes(t *testing.T) {
	rng := rand.New(rand.NewSource(6))
	lengths := [8]int{}
	for range 200000 {
		b := randomBytes(rng, 7)
		b[0] |= someOnes(rng)
		for i := range b[1:] {
			b[1+i] = b[1+i]&0x3f | 0x80
		}
		n, size, e := coded.Get(b)
		if e != api.OK {
			continue
		}
		lengths[size]++
		if p, e := coded.Put(n); !bytes.Equal(p, b[:size]) || e != api.OK {
			t.Fatalf("%x: %d, %d, and back %x, error %d", b, n, size, p, int(e))
		}
	}
	for size, many := range lengths[1:] {
		if many < 1000 {
			t.Error("too few codes of", size+1, "bytes were tried:", many)
		}
	}
}

// inOrder tells whether codes of two numbers, one behind the other, are so too, and neither begins the other.
func inOrder(t *testing.T, less, more int) {
	t.Helper()
	a, e := coded.Put(less)
	b, f := coded.Put(more)
	if e != api.OK || f != api.OK {
		t.Fatal(less, more, int(e), int(f))
	}
	if bytes.Compare(a, b) >= 0 || len(a) > len(b) {
		t.Fatalf("%d: %x, but %d: %x", less, a, more, b)
	}
	if bytes.HasPrefix(a, b) || bytes.HasPrefix(b, a) {
		t.Fatalf("one begins the other: %x (%d), %x (%d)", a, less, b, more)
	}
}

func TestCodesStandInOrder(t *testing.T) {
	for n := range 1 << 17 {
		inOrder(t, n, n+1)
	}
	l := edges()
	for i, more := range l {
		for _, less := range l[:i] {
			if less < more {
				inOrder(t, less, more)
			}
		}
	}
	rng := rand.New(rand.NewSource(7))
	for range 50000 {
		a, b := randomNumber(rng), randomNumber(rng)
		if a != b {
			inOrder(t, min(a, b), max(a, b))
		}
		if a < coded.Most {
			inOrder(t, a, a+1)
		}
	}
}
