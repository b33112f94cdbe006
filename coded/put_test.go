package coded_test

import (
	"bytes"
	"math"
	"math/rand"
	"testing"

	"jetsam/api"
	"jetsam/coded"
)

func TestMost(t *testing.T) {
	if coded.Most != 68719476735 {
		t.Error(coded.Most)
	}
}

func TestCodesAreAsTheyStandInTheTable(t *testing.T) {
	for _, c := range []struct {
		n    int
		code string
	}{
		{0, "\x00"},
		{1, "\x01"},
		{127, "\x7f"},
		{128, "\xc2\x80"},
		{1<<11 - 1, "\xdf\xbf"},
		{1 << 11, "\xe0\xa0\x80"},
		{1<<16 - 1, "\xef\xbf\xbf"},
		{1 << 16, "\xf0\x90\x80\x80"},
		{1<<21 - 1, "\xf7\xbf\xbf\xbf"},
		{1 << 21, "\xf8\x88\x80\x80\x80"},
		{1<<26 - 1, "\xfb\xbf\xbf\xbf\xbf"},
		{1 << 26, "\xfc\x84\x80\x80\x80\x80"},
		{1<<31 - 1, "\xfd\xbf\xbf\xbf\xbf\xbf"},
		{1 << 31, "\xfe\x82\x80\x80\x80\x80\x80"},
		{1<<36 - 1, "\xfe\xbf\xbf\xbf\xbf\xbf\xbf"},
		{0x123456789, "\xfe\x84\xa3\x91\x96\x9e\x89"},
	} {
		if b, e := coded.Put(c.n); string(b) != c.code || e != api.OK {
			t.Errorf("%d: %x, error %d", c.n, b, int(e))
		}
		if size, e := coded.Len(c.n); size != len(c.code) || e != api.OK {
			t.Error(c.n, size, int(e))
		}
		if g := get([]byte(c.code)); g != (got{c.n, len(c.code), api.OK}) {
			t.Errorf("%x: %v", c.code, g)
		}
	}
}

func TestSmallCodesAreThoseOfLetters(t *testing.T) {
	// Where a letter's code and a number's are the same thing (all letters but the halves of pairs), they have to be
	// the same bytes.
	for n := range 0x110000 {
		if 0xd800 <= n && n < 0xe000 {
			continue
		}
		if b, e := coded.Put(n); string(b) != string(rune(n)) || e != api.OK {
			t.Fatalf("%d: %x, error %d", n, b, int(e))
		}
	}
}

func TestPutsAndLensAsTheTextsSay(t *testing.T) {
	for _, n := range numbers(rand.New(rand.NewSource(1))) {
		want := codeOf(t, n)
		if b, e := coded.Put(n); !bytes.Equal(b, want) || e != api.OK {
			t.Fatalf("%d: %x, not %x, error %d", n, b, want, int(e))
		}
		if size, e := coded.Len(n); size != len(want) || e != api.OK {
			t.Fatal(n, size, len(want), int(e))
		}
	}
}

func TestNumbersThatAreNotCoded(t *testing.T) {
	for _, n := range []int{
		-1, -2, -127, -128, -1 << 31, -1 << 36, -coded.Most, math.MinInt, math.MinInt + 1,
		coded.Most + 1, coded.Most + 2, 1 << 37, 1 << 42, 1<<42 - 1, math.MaxInt, math.MaxInt - 1,
	} {
		if size, e := coded.Len(n); size != 0 || e != api.ErrRange {
			t.Error("Len", n, size, int(e))
		}
		if b, e := coded.Put(n); len(b) != 0 || e != api.ErrRange {
			t.Error("Put", n, b, int(e))
		}
	}
}

func TestACodeIsTheCallers(t *testing.T) {
	for _, n := range edges() {
		a, _ := coded.Put(n)
		for i := range a {
			a[i] ^= 0xff
		}
		a = append(a, 1, 2, 3)
		b, e := coded.Put(n)
		if !bytes.Equal(b, codeOf(t, n)) || e != api.OK {
			t.Fatalf("%d: %x after it was written into (%x)", n, b, a)
		}
	}
}
