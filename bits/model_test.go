package bits_test

import (
	"math/rand"
	"strconv"
	"strings"
	"testing"

	"jetsam/bits"
)

// The tests hold the package against bits as texts of 0 and 1, which are slow, and plain.

// digitsOf is bytes as such a text.
func digitsOf(b []byte) string {
	var s strings.Builder
	for _, v := range b {
		d := strconv.FormatUint(uint64(v), 2)
		s.WriteString(strings.Repeat("0", 8-len(d)) + d)
	}
	return s.String()
}

// bytesOf is such a text as bytes, with noughts behind it up to a whole byte.
func bytesOf(t *testing.T, s string) []byte {
	t.Helper()
	for len(s)%8 != 0 {
		s += "0"
	}
	b := []byte{}
	for ; s != ""; s = s[8:] {
		v, err := strconv.ParseUint(s[:8], 2, 8)
		if err != nil {
			t.Fatal(err)
		}
		b = append(b, byte(v))
	}
	return b
}

// numberOf is the number whose digits a text is.
func numberOf(t *testing.T, s string) int {
	t.Helper()
	if s == "" {
		return 0
	}
	v, err := strconv.ParseInt(s, 2, 64)
	if err != nil {
		t.Fatal(err)
	}
	return int(v)
}

// signedOf is the signed number whose digits a text is: the sum of what each bit is worth.
func signedOf(s string) int {
	v, worth := 0, 1
	for i := len(s) - 1; i >= 0; i-- {
		if s[i] == '1' && i == 0 {
			v -= worth
		} else if s[i] == '1' {
			v += worth
		}
		worth *= 2
	}
	return v
}

// unaryOf is a unary number as a text.
func unaryOf(n int) string { return strings.Repeat("0", n) + "1" }

// randomDigits is a text of n digits.
func randomDigits(rng *rand.Rand, n int) string {
	b := make([]byte, n)
	for i := range b {
		b[i] = '0' + byte(rng.Intn(2))
	}
	return string(b)
}

// readerAt is a Reader of a text that stands at a bit.
func readerAt(t *testing.T, s string, at int) *bits.Reader {
	t.Helper()
	r := bits.NewReader(bytesOf(t, s))
	if e := r.Seek(at); e != 0 {
		t.Fatal("Seek", at, int(e))
	}
	return r
}

// writerOf is a Writer of a text, written bit by bit.
func writerOf(t *testing.T, s string) *bits.Writer {
	t.Helper()
	w := bits.NewWriter()
	for i := range s {
		if e := w.Put(1, int(s[i]-'0')); e != 0 {
			t.Fatal("Put", i, int(e))
		}
	}
	return w
}
