package sums_test

import (
	"math"
	"math/rand"
	"strings"
	"testing"

	"jetsam/api"
)

const mostBits = 1048576

// shifted is a sum that may be shifted, shifted.
func (k kind) shifted(t *testing.T, sum, bits int) int {
	t.Helper()
	v, e := k.shift(sum, bits)
	if e != api.OK {
		t.Fatal(k.power, sum, bits, v, int(e))
	}
	return v
}

func TestShiftsByNothing(t *testing.T) {
	for _, k := range kinds() {
		for sum := range k.greatest() + 1 {
			if v := k.shifted(t, sum, 0); v != sum {
				t.Fatal(k.power, sum, v)
			}
		}
	}
}

func TestShiftsEachSumByOneBit(t *testing.T) {
	for _, k := range kinds() {
		for sum := range k.greatest() + 1 {
			if v := k.shifted(t, sum, 1); v != k.behind(sum) {
				t.Fatal(k.power, sum, v, k.behind(sum))
			}
		}
	}
}

func TestShiftsByEachNumberOfBits(t *testing.T) {
	for _, k := range kinds() {
		for _, sum := range []int{0, 1, 7, 128, 255, k.greatest()/2 + 1, k.greatest() - 1, k.greatest()} {
			want := sum
			for bits := range 3000 {
				if v := k.shifted(t, sum, bits); v != want {
					t.Fatal(k.power, sum, bits, v, want)
				}
				want = k.behind(want)
			}
		}
	}
}

func TestShiftsByTheMostBits(t *testing.T) {
	for _, k := range kinds() {
		for _, sum := range []int{0, 1, 0x5a, 255, k.greatest()} {
			want := sum
			for bits := 1; bits <= mostBits; bits++ {
				want = k.behind(want)
				if bits < mostBits-20 && bits%65521 != 0 {
					continue
				}
				if v := k.shifted(t, sum, bits); v != want {
					t.Fatal(k.power, sum, bits, v, want)
				}
			}
		}
	}
}

func TestShiftIsTheSumWithNoughtsBehind(t *testing.T) {
	rng := rand.New(rand.NewSource(4))
	for _, k := range kinds() {
		for range 300 {
			digits := digitsOf(randomBytes(rng, 12))[:rng.Intn(90)]
			bits := rng.Intn(90)
			want := k.left(t, digits+strings.Repeat("0", bits))
			if v := k.shifted(t, k.left(t, digits), bits); v != want {
				t.Fatal(k.power, digits, bits, v, want)
			}
		}
	}
}

func TestShiftOfNoSumIsNone(t *testing.T) {
	for _, k := range kinds() {
		for _, sum := range []int{-1, -k.greatest(), k.greatest() + 1, 1 << 32, math.MinInt, math.MaxInt} {
			for _, bits := range []int{-1, 0, 1, 8, mostBits, mostBits + 1, math.MinInt, math.MaxInt} {
				if v, e := k.shift(sum, bits); v != 0 || e != api.ErrRange {
					t.Error(k.power, sum, bits, v, int(e))
				}
			}
		}
	}
}

func TestShiftByWrongBitsIsNone(t *testing.T) {
	for _, k := range kinds() {
		for _, sum := range []int{0, 1, k.greatest()} {
			for _, bits := range []int{-1, -8, mostBits + 1, 1 << 40, math.MinInt, math.MaxInt} {
				if v, e := k.shift(sum, bits); v != 0 || e != api.ErrRange {
					t.Error(k.power, sum, bits, v, int(e))
				}
			}
		}
	}
}

// P2.3.

func TestSumOfTwoTexts(t *testing.T) {
	rng := rand.New(rand.NewSource(5))
	for _, k := range kinds() {
		for range 300 {
			a, b := randomBytes(rng, rng.Intn(30)), randomBytes(rng, rng.Intn(30))
			if v := k.shifted(t, k.sum(a), 8*len(b)) ^ k.sum(b); v != k.sum(a, b) {
				t.Fatalf("%d of %x and %x: %#x, not %#x", k.power, a, b, v, k.sum(a, b))
			}
		}
		a, b := randomBytes(rng, 100), randomBytes(rng, mostBits/8)
		if v := k.shifted(t, k.sum(a), mostBits) ^ k.sum(b); v != k.sum(a, b) {
			t.Errorf("%d of many: %#x, not %#x", k.power, v, k.sum(a, b))
		}
	}
}

func TestSumOfBytesAndTheirSumIsNought(t *testing.T) {
	rng := rand.New(rand.NewSource(6))
	for _, k := range kinds() {
		for n := range 300 {
			b := randomBytes(rng, n)
			if v := k.sum(b, k.bytesOf(k.sum(b))); v != 0 {
				t.Fatalf("%d of %x: %#x", k.power, b, v)
			}
		}
	}
}

func TestShortDamageTurnsTheSum(t *testing.T) {
	rng := rand.New(rand.NewSource(7))
	for _, k := range kinds() {
		b := randomBytes(rng, 7)
		whole := k.sum(b)
		for pattern := 1; pattern <= k.greatest(); pattern++ {
			// The pattern's bits, from each bit of the fourth byte on.
			for from := range 8 {
				window := pattern << (24 - k.power - from)
				b[3], b[4], b[5] = b[3]^byte(window>>16), b[4]^byte(window>>8), b[5]^byte(window)
				if v := k.sum(b); v == whole {
					t.Fatalf("%d by %#x from %d on: the same", k.power, pattern, from)
				}
				b[3], b[4], b[5] = b[3]^byte(window>>16), b[4]^byte(window>>8), b[5]^byte(window)
			}
		}
	}
}
