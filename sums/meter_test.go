package sums_test

import (
	"math/rand"
	"sync"
	"testing"

	"jetsam/sums"
)

// counted tells what a Meter must have counted.
func counted(t *testing.T, m *sums.Meter, bytes, times int) {
	t.Helper()
	if b, n := m.Many(); b != bytes || n != times {
		t.Errorf("counted %d bytes, %d times, not %d, %d", b, n, bytes, times)
	}
}

func TestNewMeterHasCountedNothing(t *testing.T) {
	m := sums.NewMeter()
	if m == nil {
		t.Fatal("no Meter")
	}
	counted(t, m, 0, 0)
	counted(t, m, 0, 0)
}

func TestMeterCounts(t *testing.T) {
	m := sums.NewMeter()
	bytes := 0
	for i, l := range [][][]byte{
		{[]byte("1234"), []byte("56789")},
		nil,
		{nil},
		{{}, nil, {7}},
		{{0}},
		{make([]byte, 70000), make([]byte, 1), nil},
	} {
		for _, b := range l {
			bytes += len(b)
		}
		if v := m.Sum16(l...); v != sums.Sum16(l...) {
			t.Error(i, v, sums.Sum16(l...))
		}
		counted(t, m, bytes, i+1)
	}
}

func TestMeterSumsAsSum16Does(t *testing.T) {
	rng := rand.New(rand.NewSource(8))
	m := sums.NewMeter()
	for v := range 256 {
		b := []byte{byte(v)}
		if m.Sum16(b) != sums.Sum16(b) {
			t.Fatal(v, m.Sum16(b))
		}
	}
	k := kinds()[1]
	for n := range 200 {
		a, b := randomBytes(rng, n), randomBytes(rng, rng.Intn(5))
		if v, want := m.Sum16(a, nil, b), k.left(t, digitsOf(a)+digitsOf(b)); v != want {
			t.Fatalf("of %x and %x: %#x, not %#x", a, b, v, want)
		}
	}
}

func TestMetersDoNotHangOnEachOther(t *testing.T) {
	m, o := sums.NewMeter(), sums.NewMeter()
	m.Sum16([]byte{1, 2})
	sums.Sum16([]byte{3})
	counted(t, m, 2, 1)
	counted(t, o, 0, 0)
	o.Sum16([]byte{1, 2, 3})
	counted(t, m, 2, 1)
	counted(t, o, 3, 1)
}

func TestManyAskAMeterAtOnce(t *testing.T) {
	const askers, each = 16, 500
	m := sums.NewMeter()
	begin := make(chan struct{})
	wrong := make([]int, askers)
	var wait sync.WaitGroup
	for i := range askers {
		wait.Go(func() {
			<-begin
			for j := range each {
				b := []byte{byte(i), byte(j), byte(j >> 8)}
				if m.Sum16(b, b[:i%3]) != sums.Sum16(b, b[:i%3]) {
					wrong[i]++
				}
				if bytes, times := m.Many(); bytes < 3*times || times < j+1 {
					wrong[i]++
				}
			}
		})
	}
	close(begin)
	wait.Wait()
	bytes := 0
	for i, n := range wrong {
		bytes += each * (3 + i%3)
		if n != 0 {
			t.Error(i, "was told a wrong sum, or count,", n, "times")
		}
	}
	counted(t, m, bytes, askers*each)
}

func TestNilMeter(t *testing.T) {
	var m *sums.Meter
	if m.Sum16() != 0 || m.Sum16(nil) != 0 || m.Sum16([]byte{1}) != 0 {
		t.Error(m.Sum16(), m.Sum16(nil), m.Sum16([]byte{1}))
	}
	counted(t, m, 0, 0)
}
