package rice_test

import (
	"math/rand"
	"testing"

	"jetsam/api"
	"jetsam/bits"
	"jetsam/rice"
)

// P5.5.

// comesBack tells that Read of Write is the residuals and the plan, and that Size is how many bits that are.
func comesBack(t *testing.T, p rice.Plan, skip int, l []int) {
	t.Helper()
	w := bits.NewWriter()
	size, e := rice.Size(p, skip, l...)
	f := rice.Write(w, p, skip, l...)
	if e != api.OK || f != api.OK || w.Len() != size {
		t.Fatal(p, skip, len(l), size, w.Len(), int(e), int(f))
	}
	r := bits.NewReader(w.Bytes())
	back, q, e := rice.Read(r, len(l)+skip, skip)
	if g := (got{back, q, e, r.At()}); !g.same(got{l, p, api.OK, size}) {
		t.Fatalf("%.40v: error %d, %d bits of %d, %.40v", p, int(e), r.At(), size, q)
	}
}

func TestReadOfWriteIsWhatWasWritten(t *testing.T) {
	rng := rand.New(rand.NewSource(12))
	for range 20000 {
		block, order, skip := randomBlock(rng, 5)
		about := rng.Intn(12)
		if rng.Intn(6) == 0 {
			about = rng.Intn(30)
		}
		comesBack(t, randomPlan(rng, order, about), skip, randomResiduals(rng, block-skip, about))
	}
}

func TestReadOfWriteAtTheEdges(t *testing.T) {
	rng := rand.New(rand.NewSource(13))
	bounds := []int{1<<31 - 1, 1 - 1<<31, 0, -1, 1}
	for param := 16; param <= 30; param++ {
		comesBack(t, planOf(1, coded(param)), 0, bounds)
	}
	comesBack(t, planOf(0, raw(31)), 32, []int{1<<30 - 1, -1 << 30, 0, -1, 1})
	comesBack(t, planOf(1, raw(0)), 0, make([]int, 65535))
	comesBack(t, planOf(0, coded(0)), 0, []int{32768, -32768, 0})
	comesBack(t, planOf(1, coded(14)), 0, []int{32768 << 14, -32768 << 14, 0})
	for _, skip := range []int{0, 32} {
		comesBack(t, planOf(0, coded(14)), skip, randomResiduals(rng, 65535-skip, 20))
		comesBack(t, planOf(1, raw(31)), skip, randomResiduals(rng, 65535-skip, 30))
	}
	comesBack(t, planOf(0, many(1<<15, coded(2))...), 0, randomResiduals(rng, 1<<15, 4))
	comesBack(t, planOf(1, many(1<<15, raw(5))...), 0, randomResiduals(rng, 1<<15, 4))
	comesBack(t, planOf(1, many(1<<10, coded(3))...), 32, randomResiduals(rng, 33<<10-32, 4))
}

func TestWriteOfReadIsTheBitsThatWereRead(t *testing.T) {
	rng := rand.New(rand.NewSource(14))
	done := 0
	for range 40000 {
		block, order, skip := randomBlock(rng, 2)
		b := make([]byte, 40+rng.Intn(120))
		for i := range b {
			b[i] = '0' + byte(rng.Intn(2))
		}
		s := digits(2, rng.Intn(2)) + digits(4, order) + string(b)
		g := read(t, s, block, skip)
		if g.e != api.OK {
			continue
		}
		done++
		if back := written(t, g.p, skip, g.l); back != s[:g.used] {
			t.Fatalf("%s, not %s", back, s[:g.used])
		}
	}
	if done < 5000 {
		t.Error("too few were read:", done)
	}
}

func TestNoPlanHasALesserSizeThanBest(t *testing.T) {
	rng := rand.New(rand.NewSource(15))
	tried := 0
	for range 1500 {
		block, order, skip := randomBlock(rng, 4)
		about := rng.Intn(11)
		l := randomResiduals(rng, block-skip, about)
		p, e := rice.Best(order, skip, l...)
		if e != api.OK || p.Order > order {
			t.Fatal(p, int(e))
		}
		least, e := rice.Size(p, skip, l...)
		if e != api.OK {
			t.Fatal(p, int(e))
		}
		comesBack(t, p, skip, l)
		for range 60 {
			other := randomPlan(rng, rng.Intn(order+1), about)
			if n, e := rice.Size(other, skip, l...); e == api.OK {
				tried++
				if n < least {
					t.Fatalf("%v: %d bits, but Best, %v, has %d", other, n, p, least)
				}
			}
		}
	}
	if tried < 20000 {
		t.Error("too few plans were tried:", tried)
	}
}

func TestAGreaterOrderIsNeverWorse(t *testing.T) {
	rng := rand.New(rand.NewSource(16))
	for range 300 {
		block, _, skip := randomBlock(rng, 6)
		l := randomResiduals(rng, block-skip, rng.Intn(10))
		before := 0
		for order := range 16 {
			p, e := rice.Best(order, skip, l...)
			n, f := rice.Size(p, skip, l...)
			if e != api.OK || f != api.OK || order > 0 && n > before {
				t.Fatal(order, p, n, before, int(e), int(f))
			}
			before = n
		}
	}
}
