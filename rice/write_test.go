package rice_test

import (
	"math"
	"math/rand"
	"slices"
	"testing"

	"jetsam/api"
	"jetsam/bits"
	"jetsam/rice"
)

// P5.2.

// writes tells that residuals are written in these bits.
func writes(t *testing.T, p rice.Plan, skip int, l []int, want string) {
	t.Helper()
	n, e := rice.Size(p, skip, l...)
	if n != len(want) || e != api.OK {
		t.Fatalf("Size of %d residuals: %d, error %d, not %d", len(l), n, int(e), len(want))
	}
	if s := written(t, p, skip, l); s != want {
		if len(s)+len(want) < 500 {
			t.Fatalf("%s, not %s", s, want)
		}
		t.Fatal("other bits")
	}
}

// refuses tells that Size and Write answer an error, and nothing else.
func refuses(t *testing.T, e api.Errno, p rice.Plan, skip int, l ...int) {
	t.Helper()
	if n, f := rice.Size(p, skip, l...); n != 0 || f != e {
		t.Errorf("Size of %v, %d, %d residuals: %d, error %d, not %d", p, skip, len(l), n, int(f), int(e))
	}
	w := bits.NewWriter()
	w.Put(3, 5)
	if f := rice.Write(w, p, skip, l...); f != e {
		t.Errorf("Write of %v, %d, %d residuals: error %d, not %d", p, skip, len(l), int(f), int(e))
	}
	if w.Len() != 3 || w.Bytes()[0] != 0xa0 {
		t.Errorf("written: %x", w.Bytes())
	}
	if f := rice.Write(nil, p, skip, l...); f != api.ErrNil {
		t.Errorf("a nil Writer: error %d", int(f))
	}
}

func TestWritesWhatTheChapterTells(t *testing.T) {
	writes(t, planOf(0, coded(1)), 0, []int{0, -1, 1, 5}, "00"+"0000"+"0001"+"10"+"11"+"010"+"0000010")
}

func TestWritesByHand(t *testing.T) {
	for _, c := range []struct {
		p    rice.Plan
		skip int
		l    []int
		want string
	}{
		{planOf(0, coded(0)), 0, []int{0}, "00 0000 0000 1"},
		{planOf(1, coded(0)), 0, []int{-2}, "01 0000 00000 0001"},
		{planOf(0, coded(14)), 0, []int{1}, "00 0000 1110 1 00000000000010"},
		{planOf(1, coded(30)), 0, []int{-1}, "01 0000 11110 1 000000000000000000000000000001"},
		{planOf(1, coded(30)), 1, []int{1<<31 - 1}, "01 0000 11110 0001 111111111111111111111111111110"},
		{planOf(1, coded(30)), 32, []int{1 - 1<<31}, "01 0000 11110 0001 111111111111111111111111111101"},
		{planOf(0, raw(0)), 0, []int{0, 0, 0}, "00 0000 1111 00000"},
		{planOf(1, raw(0)), 3, []int{0}, "01 0000 11111 00000"},
		{planOf(0, raw(1)), 0, []int{0, -1}, "00 0000 1111 00001 0 1"},
		{planOf(0, raw(3)), 0, []int{-4, 3, -1}, "00 0000 1111 00011 100 011 111"},
		{planOf(1, raw(31)), 0, []int{-1 << 30, 1<<30 - 1}, "01 0000 11111 11111 1000000000000000000000000000000 0111111111111111111111111111111"},
		// Parts: what is not coded is missing in the first one alone.
		{planOf(0, coded(1), coded(2)), 0, []int{1, -1, 2, -2}, "00 0001 0001 010 11 0010 0100 111"},
		{planOf(0, coded(1), coded(2)), 1, []int{1, -1, 2}, "00 0001 0001 010 0010 101 0100"},
		{planOf(1, raw(2), coded(0), raw(0), coded(3)), 1, []int{1, 1, -1, 0, 0, 3, -3}, "01 0010 11111 00010 01 00000 001 01 11111 00000 00011 1110 1101"},
	} {
		want := ""
		for _, d := range c.want {
			if d != ' ' {
				want += string(d)
			}
		}
		writes(t, c.p, c.skip, c.l, want)
	}
}

func TestWritesEachPartAsTheTextsSay(t *testing.T) {
	edges := []int{0, 1, 2, 3, 7, 8, 1<<14 - 1, 1 << 14, 1<<15 - 1, 1 << 15, 32767, 32768, 32769, 1<<29 - 1, 1 << 29, 1<<30 - 1, 1 << 30, 1<<30 + 1, 1<<31 - 2, 1<<31 - 1, 1 << 31, 1<<31 + 1, math.MaxInt}
	for method := range 2 {
		for _, o := range allParts(method) {
			for _, v := range edges {
				for _, x := range []int{v, -v, -v - 1} {
					p, l := planOf(method, o), []int{x}
					if want, may := blockText(p, 0, l); may {
						writes(t, p, 0, l, want)
					} else {
						refuses(t, api.ErrRange, p, 0, l...)
					}
				}
			}
		}
	}
}

func TestAUnaryNumberHasABound(t *testing.T) {
	for method := range 2 {
		for param := 0; param <= 14; param++ {
			// The greatest number whose unary one is 65536, as a residual; it is odd but for the parameter 0.
			n := 65537<<param - 1
			last, next := -(n+1)/2, (n+1)/2
			if param == 0 {
				last, next = n/2, -(n+2)/2
			}
			p := planOf(method, coded(param))
			want, may := blockText(p, 0, []int{last})
			if !may || len(want) != 6+4+method+65536+1+param {
				t.Fatal(method, param, may, len(want))
			}
			writes(t, p, 0, []int{last}, want)
			refuses(t, api.ErrRange, p, 0, next)
			refuses(t, api.ErrRange, p, 0, last, 0, next)
		}
	}
}

func TestSizeOfTheGreatestBlocks(t *testing.T) {
	rng := rand.New(rand.NewSource(1))
	for _, skip := range []int{0, 1, 32} {
		for method := range 2 {
			l := randomResiduals(rng, 65535-skip, 9)
			for _, o := range []part{coded(6), coded(14), raw(31)} {
				p := planOf(method, o)
				want, may := blockText(p, skip, l)
				if !may {
					t.Fatal(p)
				}
				writes(t, p, skip, l, want)
			}
			refuses(t, api.ErrArg, planOf(method, coded(6)), skip, append(l, 1)...)
		}
	}
}

func TestWritesAsManyPartsAsMayBe(t *testing.T) {
	rng := rand.New(rand.NewSource(2))
	l := randomResiduals(rng, 1<<15, 7)
	for method := range 2 {
		o := many(1<<15, coded(5))
		for i := range o {
			if i%3 == 0 {
				o[i] = raw(8 + i%7)
			}
		}
		p := planOf(method, o...)
		var want string
		var all []byte
		all = append(all, digits(2, method)...)
		all = append(all, "1111"...)
		for i, x := range l {
			s, may := partText(method, o[i], []int{x})
			if !may {
				t.Fatal(o[i], x)
			}
			all = append(all, s...)
		}
		want = string(all)
		writes(t, p, 0, l, want)
	}
	// Parts of 33 samples, of the first of which one alone is coded.
	l = randomResiduals(rng, 33<<10-32, 7)
	p := planOf(1, many(1<<10, coded(4))...)
	want, _ := blockText(p, 32, l)
	writes(t, p, 32, l, want)
}

func TestWritesRandomBlocksAsTheTextsSay(t *testing.T) {
	rng := rand.New(rand.NewSource(3))
	var done, refused int
	for range 20000 {
		block, order, skip := randomBlock(rng, 4)
		about := rng.Intn(12)
		if rng.Intn(8) == 0 {
			about = rng.Intn(32)
		}
		p := randomPlan(rng, order, about)
		if i := rng.Intn(1 << order); rng.Intn(6) == 0 && p.Params[i] == rice.Raw {
			p.Bits[i] = rng.Intn(about + 2)
		}
		l := randomResiduals(rng, block-skip, about)
		if want, may := blockText(p, skip, l); may {
			writes(t, p, skip, l, want)
			done++
		} else {
			refuses(t, api.ErrRange, p, skip, l...)
			refused++
		}
	}
	if done < 10000 || refused < 500 {
		t.Error(done, refused)
	}
}

func TestRefusesWhatCheckRefuses(t *testing.T) {
	refuses(t, api.ErrArg, planOf(0, coded(0)), 0)
	refuses(t, api.ErrArg, planOf(0, coded(0)), 0, nil...)
	refuses(t, api.ErrArg, planOf(0, coded(0)), -1, 0, 0)
	refuses(t, api.ErrArg, planOf(0, coded(0)), 33, 0, 0)
	refuses(t, api.ErrArg, planOf(0, coded(0)), math.MinInt, 0, 0)
	refuses(t, api.ErrArg, planOf(0, coded(0)), math.MaxInt, 0, 0)
	refuses(t, api.ErrRange, rice.Plan{Method: 2, Params: []int{0}, Bits: []int{0}}, 0, 0)
	refuses(t, api.ErrRange, rice.Plan{Method: -1, Params: []int{0}, Bits: []int{0}}, 0, 0)
	refuses(t, api.ErrRange, rice.Plan{Order: 16, Params: []int{0}, Bits: []int{0}}, 0, 0)
	refuses(t, api.ErrRange, rice.Plan{Order: -1, Params: []int{0}, Bits: []int{0}}, 0, 0)
	refuses(t, api.ErrForm, planOf(0, coded(0)), 5)
	refuses(t, api.ErrForm, planOf(0, coded(0), coded(0)), 0, 0, 0, 0)
	refuses(t, api.ErrForm, planOf(0, coded(0), coded(0)), 1, 0, 0)
	refuses(t, api.ErrForm, planOf(0, coded(0), coded(0)), 2, 0, 0)
	refuses(t, api.ErrArg, rice.Plan{}, 0, 0)
	refuses(t, api.ErrArg, rice.Plan{Params: []int{0}}, 0, 0)
	refuses(t, api.ErrArg, rice.Plan{Bits: []int{0}}, 0, 0)
	refuses(t, api.ErrRange, planOf(0, coded(15)), 0, 0)
	refuses(t, api.ErrRange, planOf(0, part{0, 1}), 0, 0)
	refuses(t, api.ErrRange, planOf(0, raw(32)), 0, 0)
	// The plan comes first, whatever the residuals are.
	refuses(t, api.ErrArg, planOf(0, coded(0)), 33, 1<<31)
	refuses(t, api.ErrForm, planOf(0, coded(0), coded(0)), 0, 1<<31, 0, 0)
	refuses(t, api.ErrArg, rice.Plan{Params: []int{0}}, 0, 1<<31)
}

func TestRefusesResidualsThatMayNotBe(t *testing.T) {
	for _, x := range []int{1 << 31, -1 << 31, 1<<31 + 1, -1<<31 - 1, 1 << 32, 1 << 62, math.MaxInt, math.MinInt} {
		for _, p := range []rice.Plan{planOf(1, coded(30)), planOf(0, coded(14)), planOf(0, raw(31)), planOf(1, raw(0))} {
			refuses(t, api.ErrRange, p, 0, x)
			refuses(t, api.ErrRange, p, 2, 0, 0, x, 0)
			refuses(t, api.ErrRange, planOf(p.Method, coded(0), part{p.Params[0], p.Bits[0]}), 2, 0, 0, 0, x)
		}
	}
}

func TestRefusesWhatIsNoneOfARawPartsBits(t *testing.T) {
	for b := 1; b <= 31; b++ {
		half := 1 << (b - 1)
		for _, x := range []int{half, -half - 1} {
			refuses(t, api.ErrRange, planOf(0, raw(b)), 0, 0, x)
			refuses(t, api.ErrRange, planOf(1, coded(30), raw(b)), 0, x, 0, x, 0)
			if s, may := blockText(planOf(1, raw(b), coded(30)), 1, []int{0, x, x}); may {
				writes(t, planOf(1, raw(b), coded(30)), 1, []int{0, x, x}, s)
			}
		}
	}
	refuses(t, api.ErrRange, planOf(0, raw(0)), 0, 1)
	refuses(t, api.ErrRange, planOf(0, raw(0)), 0, 0, -1)
}

func TestWritingDoesNotWriteIntoWhatIsHandedIn(t *testing.T) {
	rng := rand.New(rand.NewSource(4))
	for range 300 {
		block, order, skip := randomBlock(rng, 3)
		p, all := randomPlan(rng, order, 6), randomResiduals(rng, block+5, 6)
		l := all[: block-skip : block+2]
		planBefore, before := cloned(p), slices.Clone(all)
		size, e := rice.Size(p, skip, l...)
		w := bits.NewWriter()
		f := rice.Write(w, p, skip, l...)
		again, g := rice.Size(p, skip, l...)
		if e != api.OK || f != api.OK || g != api.OK || size != again || w.Len() != size {
			t.Fatal(size, again, w.Len(), int(e), int(f), int(g))
		}
		if !same(p, planBefore) || !slices.Equal(all, before) {
			t.Fatal("written into")
		}
	}
}
