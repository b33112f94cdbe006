package coded_test

import (
	"math/rand"
	"strconv"
	"strings"
	"testing"

	"jetsam/api"
	"jetsam/coded"
)

// The tests hold the package against codes as texts of 0 and 1, which are slow, and plain.

// first is what the first byte of codes of so many bytes begins with, and furtherMark what each further one does.
var first = []string{"0", "110", "1110", "11110", "111110", "1111110", "11111110"}

const furtherMark = "10"

// power is the power of 2 that numbers with a code of so many bytes are below.
var power = []int{7, 11, 16, 21, 26, 31, 36}

// digitsOf is a number's binary digits, with noughts ahead of them up to so many.
func digitsOf(n, many int) string {
	s := strconv.FormatInt(int64(n), 2)
	return strings.Repeat("0", max(0, many-len(s))) + s
}

// numberOf is the number whose digits a text is.
func numberOf(t *testing.T, s string) int {
	t.Helper()
	v, err := strconv.ParseInt(s, 2, 64)
	if err != nil {
		t.Fatal(err)
	}
	return int(v)
}

// sizeOf is how many bytes the code of a number has.
func sizeOf(n int) int {
	for i, p := range power {
		if n < 1<<p {
			return i + 1
		}
	}
	panic("no number of a code")
}

// spread is a number, spread over so many bytes, whether these are the fewest or not.
func spread(t *testing.T, n, size int) []byte {
	t.Helper()
	digits := digitsOf(n, power[size-1])
	s := first[size-1]
	s, digits = s+digits[:8-len(s)], digits[8-len(s):]
	for ; digits != ""; digits = digits[6:] {
		s += furtherMark + digits[:6]
	}
	if len(s) != 8*size {
		t.Fatal(n, size, s)
	}
	b := []byte{}
	for ; s != ""; s = s[8:] {
		b = append(b, byte(numberOf(t, s[:8])))
	}
	return b
}

// codeOf is the code of a number.
func codeOf(t *testing.T, n int) []byte {
	t.Helper()
	return spread(t, n, sizeOf(n))
}

// got is what Get answers.
type got struct {
	n, size int
	e       api.Errno
}

// get is what Get answers of bytes.
func get(b []byte) got {
	n, size, e := coded.Get(b)
	return got{n, size, e}
}

// getOf is what Get has to answer of bytes.
func getOf(t *testing.T, b []byte) got {
	t.Helper()
	if len(b) == 0 {
		return got{e: api.ErrEnd}
	}
	size, digits := 0, ""
	for i, mark := range first {
		if rest, ok := strings.CutPrefix(digitsOf(int(b[0]), 8), mark); ok {
			size, digits = i+1, rest
		}
	}
	if size == 0 {
		return got{e: api.ErrForm}
	}
	for at := 1; at < size; at++ {
		if at >= len(b) {
			return got{e: api.ErrEnd}
		}
		rest, ok := strings.CutPrefix(digitsOf(int(b[at]), 8), furtherMark)
		if !ok {
			return got{e: api.ErrForm}
		}
		digits += rest
	}
	n := numberOf(t, digits)
	if sizeOf(n) < size {
		return got{e: api.ErrForm}
	}
	return got{n, size, api.OK}
}

// edges are the numbers around each power of 2, among them the first and the last one of each length, in order.
func edges() []int {
	l := []int{0, 1, 2}
	for p := 2; p < 36; p++ {
		l = append(l, 1<<p-1, 1<<p, 1<<p+1)
	}
	return append(l, coded.Most-1, coded.Most)
}

// randomNumber is one of any length.
func randomNumber(rng *rand.Rand) int {
	return rng.Intn(1 << (1 + rng.Intn(36)))
}

// numbers are all small ones, edges, and some of each length.
func numbers(rng *rand.Rand) []int {
	l := edges()
	for n := range 1 << 17 {
		l = append(l, n)
	}
	for range 20000 {
		l = append(l, randomNumber(rng))
	}
	return l
}

// randomBytes is so many.
func randomBytes(rng *rand.Rand, n int) []byte {
	b := make([]byte, n)
	rng.Read(b)
	return b
}

// someOnes is a byte that begins with up to eight ones: a first byte with these is one of a code of any length.
func someOnes(rng *rand.Rand) byte {
	return ^byte(0xff >> rng.Intn(9))
}
