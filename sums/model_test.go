package sums_test

import (
	"math/rand"
	"strconv"
	"strings"
	"testing"

	"jetsam/api"
	"jetsam/sums"
)

// The tests hold the package against a long division of texts of 0 and 1, which is slow, and plain.

// kind is a kind of sum: the polynomial as a text, and what the package has of it.
type kind struct {
	power   int
	divisor string
	sum     func(l ...[]byte) int
	shift   func(sum, bits int) (int, api.Errno)
}

func kinds() []kind {
	return []kind{
		{8, "100000111", sums.Sum8, sums.Shift8},
		{16, "11000000000000101", sums.Sum16, sums.Shift16},
	}
}

// greatest is the greatest sum of a kind.
func (k kind) greatest() int { return 1<<k.power - 1 }

// left is the sum of bits, by division: noughts behind them, and the divisor taken away at each one that is left.
func (k kind) left(t *testing.T, digits string) int {
	t.Helper()
	b := []byte(digits + strings.Repeat("0", k.power))
	for i := range len(digits) {
		if b[i] == '0' {
			continue
		}
		for j := range k.divisor {
			b[i+j] ^= k.divisor[j] ^ '0'
		}
	}
	v, err := strconv.ParseUint(string(b[len(digits):]), 2, 64)
	if err != nil {
		t.Fatal(err)
	}
	return int(v)
}

// behind is a sum with one nought more behind its bits: one step of the division.
func (k kind) behind(sum int) int {
	sum *= 2
	if sum > k.greatest() {
		sum = (sum - k.greatest() - 1) ^ numberOf(k.divisor[1:])
	}
	return sum
}

// numberOf is the number whose digits a text is.
func numberOf(s string) int {
	v, err := strconv.ParseUint(s, 2, 64)
	if err != nil {
		panic(err)
	}
	return int(v)
}

// digitsOf is bytes as a text, the greatest bit of each first.
func digitsOf(b []byte) string {
	var s strings.Builder
	for _, v := range b {
		d := strconv.FormatUint(uint64(v), 2)
		s.WriteString(strings.Repeat("0", 8-len(d)) + d)
	}
	return s.String()
}

// bytesOf is a sum as bytes, the greatest first.
func (k kind) bytesOf(sum int) []byte {
	b := []byte{}
	for n := k.power - 8; n >= 0; n -= 8 {
		b = append(b, byte(sum>>n))
	}
	return b
}

// randomBytes is so many.
func randomBytes(rng *rand.Rand, n int) []byte {
	b := make([]byte, n)
	rng.Read(b)
	return b
}
