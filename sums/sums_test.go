package sums_test

import (
	"bytes"
	"math/rand"
	"testing"

	"jetsam/sums"
)

func TestSumsTheExamples(t *testing.T) {
	for _, c := range []struct {
		bytes          string
		eight, sixteen int
	}{
		{"", 0, 0},
		{"\x00", 0, 0},
		{"\x01", 7, 32773},
		{"\x01\x07", 0, 0x0612},
		{"\x01\x80\x05", 0xc6, 0},
		{"\xff", 0xf3, 0x0202},
		{"123456789", 0xf4, 0xfee8},
	} {
		b := []byte(c.bytes)
		if v := sums.Sum8(b); v != c.eight {
			t.Errorf("Sum8 of %q: %#x", b, v)
		}
		if v := sums.Sum16(b); v != c.sixteen {
			t.Errorf("Sum16 of %q: %#x", b, v)
		}
	}
}

func TestSumOfNothingIsNought(t *testing.T) {
	for _, k := range kinds() {
		if k.sum() != 0 || k.sum(nil) != 0 || k.sum([]byte{}) != 0 || k.sum(nil, []byte{}, nil) != 0 {
			t.Error(k.power, k.sum(), k.sum(nil), k.sum([]byte{}), k.sum(nil, []byte{}, nil))
		}
	}
}

func TestSumsEachByteAsTheDivisionDoes(t *testing.T) {
	for _, k := range kinds() {
		for v := range 256 {
			// Ahead of it nothing, noughts, and what turns each bit of the sum that is pushed out.
			for _, ahead := range [][]byte{nil, {0}, {0, 0, 0}, {1}, {0xff, 0x80}, {0x12, 0x34, 0x56}} {
				b := append(bytes.Clone(ahead), byte(v))
				if got, want := k.sum(b), k.left(t, digitsOf(b)); got != want {
					t.Fatalf("%d of %x: %#x, not %#x", k.power, b, got, want)
				}
			}
		}
	}
}

func TestSumsManyBytesAsTheDivisionDoes(t *testing.T) {
	rng := rand.New(rand.NewSource(1))
	for _, k := range kinds() {
		for n := range 200 {
			b := randomBytes(rng, n)
			if got, want := k.sum(b), k.left(t, digitsOf(b)); got != want {
				t.Fatalf("%d of %x: %#x, not %#x", k.power, b, got, want)
			}
		}
		b := randomBytes(rng, 70000)
		if got, want := k.sum(b), k.left(t, digitsOf(b)); got != want {
			t.Errorf("%d of many: %#x, not %#x", k.power, got, want)
		}
	}
}

func TestEachSumIsOneOfSomeBytes(t *testing.T) {
	for _, k := range kinds() {
		seen := make([]int, k.greatest()+1)
		for v := range 65536 {
			sum := k.sum([]byte{byte(v >> 8), byte(v)})
			if sum < 0 || sum > k.greatest() {
				t.Fatal(k.power, v, sum)
			}
			seen[sum]++
		}
		for sum, n := range seen {
			if n != 65536>>k.power {
				t.Fatal(k.power, sum, n)
			}
		}
	}
}

func TestSumsListsOneBehindTheOther(t *testing.T) {
	rng := rand.New(rand.NewSource(3))
	for _, k := range kinds() {
		for range 300 {
			all := randomBytes(rng, rng.Intn(40))
			want := k.left(t, digitsOf(all))
			var l [][]byte
			for rest := all; len(rest) > 0; {
				n := rng.Intn(len(rest) + 1)
				l = append(l, rest[:n])
				rest = rest[n:]
			}
			if got := k.sum(append(l, nil)...); got != want {
				t.Fatalf("%d of %x in %d lists: %#x, not %#x", k.power, all, len(l), got, want)
			}
			if got := k.sum(append([][]byte{{}, nil}, l...)...); got != want {
				t.Fatalf("%d of %x behind empty ones: %#x, not %#x", k.power, all, got, want)
			}
		}
	}
}

func TestSumsInTheOrderOfTheLists(t *testing.T) {
	a, b := []byte("jet"), []byte("sam")
	for _, k := range kinds() {
		if k.sum(a, b) == k.sum(b, a) || k.sum(a, b) != k.sum([]byte("jetsam")) {
			t.Error(k.power, k.sum(a, b), k.sum(b, a))
		}
	}
}

func TestSumsHangOnTheBytesAlone(t *testing.T) {
	m := sums.NewMeter()
	all := []byte{0xff, 1, 2, 3, 0xff}
	before := bytes.Clone(all)
	b := all[1:4:5]
	for _, sum := range []func(l ...[]byte) int{sums.Sum8, sums.Sum16, m.Sum16} {
		first := sum(b)
		sum([]byte("others"))
		if again := sum(b); again != first {
			t.Error(first, again)
		}
		all[4] ^= 0x55
		if again := sum(b); again != first {
			t.Error("hangs on what stands behind:", first, again)
		}
		all[4] ^= 0x55
		if !bytes.Equal(all, before) {
			t.Fatal("written into what was handed in:", all)
		}
	}
}
