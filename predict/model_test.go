package predict_test

import (
	"math/big"
	"math/rand"
	"slices"
	"testing"

	"jetsam/api"
	"jetsam/predict"
)

// The tests hold the package against numbers of any size, of which a quotient is rounded down, and against differences
// that are taken so often.

// The greatest sample, and the least.
const (
	most  = 1<<32 - 1
	least = -1 << 32
)

// linear is a prediction.
func linear(precision, shift int, coefs ...int) predict.Linear {
	return predict.Linear{Precision: precision, Shift: shift, Coefs: coefs}
}

// told is what samples ahead tell of the next one.
func told(p predict.Linear, ahead []*big.Int) *big.Int {
	sum := new(big.Int)
	for i, c := range p.Coefs {
		sum.Add(sum, new(big.Int).Mul(big.NewInt(int64(c)), ahead[len(ahead)-1-i]))
	}
	// Div, of a positive divisor, rounds down.
	return sum.Div(sum, new(big.Int).Exp(big.NewInt(2), big.NewInt(int64(p.Shift)), nil))
}

// mayBe tells whether a number is a sample.
func mayBe(x *big.Int) bool {
	bound := new(big.Int).Exp(big.NewInt(2), big.NewInt(32), nil)
	return x.Cmp(bound) < 0 && x.Cmp(new(big.Int).Neg(bound)) >= 0
}

// residualOf is what Residual has to answer of a prediction that may be.
func residualOf(p predict.Linear, l []int) ([]int, api.Errno) {
	if len(l) < len(p.Coefs) {
		return nil, api.ErrArg
	}
	var all []*big.Int
	var residuals []int
	fail := api.OK
	for i, v := range l {
		x := big.NewInt(int64(v))
		if !mayBe(x) {
			fail = api.ErrRange
		}
		if i >= len(p.Coefs) {
			residuals = append(residuals, int(new(big.Int).Sub(x, told(p, all)).Int64()))
		}
		all = append(all, x)
	}
	if fail != api.OK {
		return nil, fail
	}
	return residuals, api.OK
}

// restoreOf is what Restore has to answer of a prediction that may be.
func restoreOf(p predict.Linear, first, l []int) ([]int, api.Errno) {
	if len(first) != len(p.Coefs) {
		return nil, api.ErrArg
	}
	var all []*big.Int
	for _, v := range first {
		all = append(all, big.NewInt(int64(v)))
	}
	for _, v := range l {
		all = append(all, new(big.Int).Add(told(p, all), big.NewInt(int64(v))))
	}
	var samples []int
	for _, x := range all {
		if !mayBe(x) {
			return nil, api.ErrRange
		}
		samples = append(samples, int(x.Int64()))
	}
	return samples, api.OK
}

// differences is how much more each number is than the one ahead of it, so often.
func differences(l []int, often int) []int {
	l = slices.Clone(l)
	for range often {
		for i := len(l) - 1; i > 0; i-- {
			l[i] -= l[i-1]
		}
		l = l[1:]
	}
	return l
}

// sumOf is the sum of numbers without their signs.
func sumOf(l []int) *big.Int {
	sum := new(big.Int)
	for _, d := range l {
		sum.Add(sum, new(big.Int).Abs(big.NewInt(int64(d))))
	}
	return sum
}

// bestOf is what Best has to answer of samples that may be.
func bestOf(l []int) int {
	best := 0
	for order := 1; order <= 4 && order < len(l); order++ {
		if sumOf(differences(l, order)).Cmp(sumOf(differences(l, best))) < 0 {
			best = order
		}
	}
	return best
}

// residual tells that Residual answers what it has to, and that it is so many numbers.
func residual(t *testing.T, p predict.Linear, l []int) ([]int, api.Errno) {
	t.Helper()
	want, f := residualOf(p, l)
	d, e := predict.Residual(p, l...)
	if !slices.Equal(d, want) || e != f {
		t.Fatalf("%v of %.40v: %.40v, error %d, not %.40v, error %d", p, l, d, int(e), want, int(f))
	}
	return d, e
}

// restore tells that Restore answers what it has to.
func restore(t *testing.T, p predict.Linear, first, l []int) ([]int, api.Errno) {
	t.Helper()
	want, f := restoreOf(p, first, l)
	s, e := predict.Restore(p, first, l...)
	if !slices.Equal(s, want) || e != f {
		t.Fatalf("%v of %v and %.40v: %.40v, error %d, not %.40v, error %d", p, first, l, s, int(e), want, int(f))
	}
	return s, e
}

// randomLinear is a prediction of the order that may be; the bounds are among its coefficients.
func randomLinear(rng *rand.Rand, order int) predict.Linear {
	p := linear(1+rng.Intn(15), rng.Intn(16))
	half := 1 << p.Precision / 2
	for range order {
		c := rng.Intn(2*half) - half
		switch rng.Intn(6) {
		case 0:
			c = -half
		case 1:
			c = half - 1
		}
		p.Coefs = append(p.Coefs, c)
	}
	return p
}

// randomSamples is so many of about so many bits, the bounds among them.
func randomSamples(rng *rand.Rand, n, about int) []int {
	l := make([]int, n)
	top := 1 << about
	for i := range l {
		switch l[i] = rng.Intn(2*top) - top; rng.Intn(10) {
		case 0:
			l[i] = -top
		case 1:
			l[i] = top - 1
		}
	}
	return l
}
