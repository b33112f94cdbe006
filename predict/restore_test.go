package predict_test

import (
	"math"
	"math/rand"
	"slices"
	"testing"

	"jetsam/api"
	"jetsam/predict"
)

// P6.2, Restore.

// refusesRestore tells that Restore answers an error, and nothing else.
func refusesRestore(t *testing.T, want api.Errno, p predict.Linear, first []int, l ...int) {
	t.Helper()
	if s, e := predict.Restore(p, first, l...); len(s) != 0 || e != want {
		t.Errorf("%v of %v and %v: %v, error %d, not %d", p, first, l, s, int(e), int(want))
	}
}

func TestRestoreByHand(t *testing.T) {
	for i, c := range []struct {
		p              predict.Linear
		first, l, want []int
	}{
		{linear(1, 0), nil, nil, nil},
		{linear(1, 0), []int{}, []int{5, -6, 0}, []int{5, -6, 0}},
		// What a residual told is what the next samples are told by.
		{linear(2, 0, 1), []int{7}, []int{1, 1, -2}, []int{7, 8, 9, 7}},
		{linear(3, 0, 2, -1), []int{3, 5}, []int{2, 2}, []int{3, 5, 9, 15}},
		{linear(8, 0, 10, 100), []int{1, 2}, []int{0, 1}, []int{1, 2, 120, 1401}},
		// Rounded down, of both signs.
		{linear(2, 1, 1), []int{-3}, []int{0, 0, 0}, []int{-3, -2, -1, -1}},
		{linear(2, 1, 1), []int{3}, []int{0, 0, 0}, []int{3, 1, 0, 0}},
		{linear(1, 15, -1), []int{1}, []int{0, 0}, []int{1, -1, 0}},
		// No residuals: the first samples.
		{linear(3, 1, 3, -1), []int{7, -7}, nil, []int{7, -7}},
		{linear(5, 1, 3, -1), []int{4, 6}, []int{0, 0}, []int{4, 6, 7, 7}},
	} {
		s, e := predict.Restore(c.p, c.first, c.l...)
		if !slices.Equal(s, c.want) || e != api.OK {
			t.Error(i, s, int(e), c.want)
		}
		restore(t, c.p, c.first, c.l)
	}
}

func TestRestoreOfTooFewOrTooManyFirst(t *testing.T) {
	for order := range 33 {
		p := linear(3, 0, make([]int, order)...)
		for n := range 36 {
			want := api.ErrArg
			if n == order {
				want = api.OK
			}
			s, e := predict.Restore(p, make([]int, n), 5)
			if e != want || e == api.OK && len(s) != n+1 || e != api.OK && len(s) != 0 {
				t.Error(order, n, s, int(e))
			}
		}
		// Ahead of samples that may not be, first ones or told ones; behind Check's.
		refusesRestore(t, api.ErrArg, p, slices.Repeat([]int{most + 1}, order+1))
		refusesRestore(t, api.ErrArg, p, make([]int, order+1), most+1)
		p.Precision = 16
		refusesRestore(t, api.ErrRange, p, make([]int, order+1), most+1)
		refusesRestore(t, api.ErrRange, p, make([]int, order))
	}
}

func TestRestoreOfFirstThatMayNotBe(t *testing.T) {
	for _, x := range []int{most + 1, least - 1, 1 << 33, -1 << 33, math.MinInt, math.MaxInt} {
		for order := 1; order <= 32; order++ {
			p := linear(3, 2, make([]int, order)...)
			for at := range order {
				first := make([]int, order)
				first[at] = x
				refusesRestore(t, api.ErrRange, p, first)
				refusesRestore(t, api.ErrRange, p, first, 0, 0)
				first[at] = max(min(x, most), least)
				restore(t, p, first, []int{0, 0})
			}
		}
	}
}

func TestRestoreOfSamplesThatMayNotBe(t *testing.T) {
	same := linear(2, 0, 1)
	for _, c := range []struct {
		first, x int
		want     api.Errno
	}{
		{0, most, api.OK}, {0, most + 1, api.ErrRange},
		{0, least, api.OK}, {0, least - 1, api.ErrRange},
		{most, 0, api.OK}, {most, 1, api.ErrRange},
		{least, 0, api.OK}, {least, -1, api.ErrRange},
		{most, least - most, api.OK}, {most, least - most - 1, api.ErrRange},
		{least, most - least, api.OK}, {least, most - least + 1, api.ErrRange},
	} {
		s, e := predict.Restore(same, []int{c.first}, c.x, 0)
		if e != c.want || e == api.OK && !slices.Equal(s, []int{c.first, c.first + c.x, c.first + c.x}) || e != api.OK && len(s) != 0 {
			t.Error(c.first, c.x, s, int(e))
		}
		restore(t, same, []int{c.first}, []int{c.x, 0})
	}
	// A sample that may not be, behind which others would come back.
	refusesRestore(t, api.ErrRange, same, []int{0}, most, 1, -1, 0)
	refusesRestore(t, api.ErrRange, linear(1, 0), nil, 1, 2, most+1, 3)
	// No residual that is told, but all that is told too much.
	refusesRestore(t, api.ErrRange, linear(15, 0, 1<<14-1), []int{1 << 20}, 0)
	refusesRestore(t, api.ErrRange, linear(3, 0, 2), []int{1 << 30}, 0, 0, 0)
}

func TestRestoreOfGreatResiduals(t *testing.T) {
	// Numbers of 64 bits that would wrap round, if what is told were added to them.
	great := []int{math.MaxInt, math.MinInt, math.MaxInt - 1, math.MinInt + 1, 1 << 62, -1 << 62}
	for bits := 33; bits < 63; bits++ {
		great = append(great, 1<<bits, -1<<bits, math.MaxInt-1<<bits, math.MinInt+1<<bits)
	}
	for _, c := range []int{-1 << 14, 1<<14 - 1, 0, 1, -1} {
		for _, first := range []int{least, most, 0} {
			for _, order := range []int{0, 1, 2, 32} {
				p := linear(15, 0, slices.Repeat([]int{c}, order)...)
				for _, x := range great {
					restore(t, p, slices.Repeat([]int{first}, order), []int{x})
				}
			}
		}
	}
}

func TestRestoreOfRandomResiduals(t *testing.T) {
	rng := rand.New(rand.NewSource(4))
	var many [2]int
	for range 20000 {
		order := rng.Intn(33)
		if rng.Intn(2) == 0 {
			order = rng.Intn(5)
		}
		p := randomLinear(rng, order)
		first := randomSamples(rng, order, rng.Intn(33))
		if rng.Intn(20) == 0 {
			first = append(first, 0)
		}
		_, e := restore(t, p, first, randomSamples(rng, rng.Intn(12), rng.Intn(40)))
		if e == api.OK {
			many[0]++
		} else {
			many[1]++
		}
	}
	if min(many[0], many[1]) < 3000 {
		t.Error("too few of a kind:", many)
	}
}

func TestRestoreDoesNotWriteAndAnswersItsOwn(t *testing.T) {
	rng := rand.New(rand.NewSource(5))
	for range 500 {
		order := rng.Intn(6)
		p := linear(1, 0, slices.Repeat([]int{-1}, order)...)
		allFirst, all := randomSamples(rng, order+9, 8), randomSamples(rng, 20, 8)
		beforeFirst, before := slices.Clone(allFirst), slices.Clone(all)
		// There is room behind what is handed in, for residuals to be written there by mistake.
		first, l := allFirst[:order:order+8], all[:rng.Intn(8):12]
		s, e := predict.Restore(p, first, l...)
		other, _ := predict.Restore(p, first, l...)
		if e != api.OK || len(s) != len(first)+len(l) {
			t.Fatal(p, first, l, s, int(e))
		}
		want := slices.Clone(s)
		wide := append(s, 7, 7, 7, 7)
		for i := range wide {
			wide[i] = 7
		}
		for i := range s {
			s[i] = 7
		}
		if !slices.Equal(allFirst, beforeFirst) || !slices.Equal(all, before) || !slices.Equal(other, want) {
			t.Fatal(p, allFirst, beforeFirst, all, before)
		}
	}
}
