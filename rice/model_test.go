package rice_test

import (
	"math/rand"
	"slices"
	"strconv"
	"strings"
	"testing"

	"jetsam/api"
	"jetsam/bits"
	"jetsam/rice"
)

// The tests hold the package against bits as texts of 0 and 1, put together and taken apart as the chapter's words go,
// and against a choice among all parts that there may be.

// part is how a part is written.
type part struct {
	param, bits int
}

// rank is where a part stands among those of one Size: the greater Raw ones last.
func (o part) rank() int {
	if o.param == rice.Raw {
		return 100 + o.bits
	}
	return o.param
}

// mostParam is the greatest parameter of each Method, and rawCode what a Raw part has in its place.
var (
	mostParam = [2]int{14, 30}
	rawCode   = [2]string{"1111", "11111"}
)

// allParts is every part that may be.
func allParts(method int) []part {
	var l []part
	for param := 0; param <= mostParam[method]; param++ {
		l = append(l, part{param, 0})
	}
	for b := 0; b <= 31; b++ {
		l = append(l, part{rice.Raw, b})
	}
	return l
}

// planOf is a plan of parts.
func planOf(method int, l ...part) rice.Plan {
	p := rice.Plan{Method: method, Order: len(strconv.FormatInt(int64(len(l)), 2)) - 1}
	for _, o := range l {
		p.Params = append(p.Params, o.param)
		p.Bits = append(p.Bits, o.bits)
	}
	return p
}

// coded is a part of a parameter, raw one of Bits.
func coded(param int) part { return part{param, 0} }
func raw(b int) part       { return part{rice.Raw, b} }

// many is so many parts that are the same.
func many(n int, o part) []part { return slices.Repeat([]part{o}, n) }

// cloned is a plan of its own memory.
func cloned(p rice.Plan) rice.Plan {
	p.Params, p.Bits = slices.Clone(p.Params), slices.Clone(p.Bits)
	return p
}

// same tells whether two plans are.
func same(a, b rice.Plan) bool {
	return a.Method == b.Method && a.Order == b.Order && slices.Equal(a.Params, b.Params) && slices.Equal(a.Bits, b.Bits)
}

// digits is a number of so many bits.
func digits(n, v int) string {
	s := strconv.FormatInt(int64(v), 2)
	if v == 0 {
		s = ""
	}
	return strings.Repeat("0", n-len(s)) + s
}

// residualText is a residual in its part, and whether it may be written there.
func residualText(o part, x int) (string, bool) {
	if x <= -1<<31 || x >= 1<<31 {
		return "", false
	}
	if o.param == rice.Raw {
		return rawText(o.bits, x)
	}
	n := 2 * x
	if x < 0 {
		n = -2*x - 1
	}
	s := digits(64, n)
	high, err := strconv.ParseInt(s[:64-o.param], 2, 64)
	if err != nil || high > 65536 {
		return "", false
	}
	return strings.Repeat("0", int(high)) + "1" + s[64-o.param:], true
}

// rawText is a signed number of so many bits.
func rawText(n, x int) (string, bool) {
	if n == 0 {
		return "", x == 0
	}
	all := 1 << n
	switch {
	case x >= 0 && x < all/2:
		return digits(n, x), true
	case x < 0 && x >= -all/2:
		return digits(n, x+all), true
	}
	return "", false
}

// partText is a part, and whether it may be written.
func partText(method int, o part, l []int) (string, bool) {
	var s strings.Builder
	if o.param == rice.Raw {
		s.WriteString(rawCode[method] + digits(5, o.bits))
	} else {
		s.WriteString(digits(len(rawCode[method]), o.param))
	}
	for _, x := range l {
		d, may := residualText(o, x)
		if !may {
			return "", false
		}
		s.WriteString(d)
	}
	return s.String(), true
}

// parted is residuals, part by part.
func parted(order, skip int, l []int) [][]int {
	all := append(make([]int, skip), l...)
	size := len(all) >> order
	var out [][]int
	for len(all) > 0 {
		out = append(out, all[:size])
		all = all[size:]
	}
	out[0] = out[0][skip:]
	return out
}

// blockText is a block by a plan that Check takes, and whether it may be written.
func blockText(p rice.Plan, skip int, l []int) (string, bool) {
	s := digits(2, p.Method) + digits(4, p.Order)
	for i, own := range parted(p.Order, skip, l) {
		d, may := partText(p.Method, part{p.Params[i], p.Bits[i]}, own)
		if !may {
			return "", false
		}
		s += d
	}
	return s, true
}

// got is what Read answers, and where the Reader stands then.
type got struct {
	l    []int
	p    rice.Plan
	e    api.Errno
	used int
}

func (g got) same(o got) bool {
	return slices.Equal(g.l, o.l) && same(g.p, o.p) && g.e == o.e && g.used == o.used
}

// tape is a text that is read, up to a first error.
type tape struct {
	s    string
	at   int
	fail api.Errno
}

func (t *tape) set(e api.Errno) {
	if t.fail == api.OK {
		t.fail = e
	}
}

// take is the next n digits.
func (t *tape) take(n int) string {
	if t.fail != api.OK || t.at+n > len(t.s) {
		t.set(api.ErrEnd)
		return strings.Repeat("0", n)
	}
	t.at += n
	return t.s[t.at-n : t.at]
}

func (t *tape) number(n int) int {
	v := 0
	for _, d := range t.take(n) {
		v = 2*v + int(d-'0')
	}
	return v
}

func (t *tape) signed(n int) int {
	v := t.number(n)
	if n > 0 && v >= 1<<(n-1) {
		v -= 1 << n
	}
	return v
}

// unary is the next digits up to a 1.
func (t *tape) unary() int {
	n := strings.IndexByte(t.s[t.at:], '1')
	if t.fail != api.OK || n < 0 {
		t.set(api.ErrEnd)
		return 0
	}
	t.at += n + 1
	if n > 65536 {
		t.set(api.ErrRange)
		return 0
	}
	return n
}

// residual is the next one of a part.
func (t *tape) residual(o part) int {
	if o.param == rice.Raw {
		return t.signed(o.bits)
	}
	n := t.unary()<<o.param + t.number(o.param)
	x := n / 2
	if n%2 != 0 {
		x = -(n + 1) / 2
	}
	if x <= -1<<31 || x >= 1<<31 {
		t.set(api.ErrRange)
	}
	return x
}

// readText is what Read has to answer of a text.
func readText(s string, block, skip int) got {
	t := &tape{s: s}
	g := got{p: rice.Plan{Method: t.number(2)}}
	if g.p.Method > 1 {
		t.set(api.ErrCode)
	}
	g.p.Order = t.number(4)
	if block%(1<<g.p.Order) != 0 || block>>g.p.Order <= skip {
		t.set(api.ErrForm)
	}
	if t.fail != api.OK {
		return got{e: t.fail}
	}
	for _, own := range parted(g.p.Order, skip, make([]int, block-skip)) {
		o := part{t.number(len(rawCode[g.p.Method])), 0}
		if o.param == mostParam[g.p.Method]+1 {
			o = part{rice.Raw, t.number(5)}
		}
		for range own {
			g.l = append(g.l, t.residual(o))
			if t.fail != api.OK {
				return got{e: t.fail}
			}
		}
		g.p.Params, g.p.Bits = append(g.p.Params, o.param), append(g.p.Bits, o.bits)
	}
	if t.fail != api.OK {
		return got{e: t.fail}
	}
	g.used = t.at
	return g
}

// bytesOf is a text as bytes, with noughts behind it up to a whole byte.
func bytesOf(t *testing.T, s string) []byte {
	t.Helper()
	s += strings.Repeat("0", (8-len(s)%8)%8)
	b := []byte{}
	for ; s != ""; s = s[8:] {
		v, err := strconv.ParseUint(s[:8], 2, 8)
		if err != nil {
			t.Fatal(err)
		}
		b = append(b, byte(v))
	}
	return b
}

// read is what Read answers of a text behind which no bit stands; ahead of it stand ones, up to a whole byte.
func read(t *testing.T, s string, block, skip int) got {
	t.Helper()
	pad := (8 - len(s)%8) % 8
	r := bits.NewReader(bytesOf(t, strings.Repeat("1", pad)+s))
	if e := r.Seek(pad); e != api.OK {
		t.Fatal(pad, int(e))
	}
	var g got
	g.l, g.p, g.e = rice.Read(r, block, skip)
	g.used = r.At() - pad
	return g
}

// written is what Write writes, as a text, behind some bits that stand there.
func written(t *testing.T, p rice.Plan, skip int, l []int) string {
	t.Helper()
	w := bits.NewWriter()
	w.Put(3, 5)
	if e := rice.Write(w, p, skip, l...); e != api.OK {
		t.Fatal(p, skip, len(l), int(e))
	}
	var s strings.Builder
	for _, b := range w.Bytes() {
		s.WriteString(digits(8, int(b)))
	}
	all := s.String()
	if !strings.HasPrefix(all, "101") || strings.Trim(all[w.Len():], "0") != "" {
		t.Fatal(all)
	}
	return all[3:w.Len()]
}

// randomResidual is one of about so many bits, both bounds among them.
func randomResidual(rng *rand.Rand, about int) int {
	top := 1<<about - 1
	switch rng.Intn(12) {
	case 0:
		return top
	case 1:
		return -top
	case 2:
		return 0
	}
	return rng.Intn(2*top+1) - top
}

// randomResiduals is so many.
func randomResiduals(rng *rand.Rand, n, about int) []int {
	l := make([]int, n)
	for i := range l {
		l[i] = randomResidual(rng, about)
	}
	return l
}

// randomBlock is a block that may be, and an Order that parts it.
func randomBlock(rng *rand.Rand, mostOrder int) (block, order, skip int) {
	order = rng.Intn(mostOrder + 1)
	size := 1 + rng.Intn(12)
	skip = rng.Intn(size)
	if rng.Intn(3) == 0 {
		skip = 0
	}
	return size << order, order, skip
}

// randomPlan is one of the Order, of parts by which residuals of about so many bits may be written, without many noughts.
func randomPlan(rng *rand.Rand, order, about int) rice.Plan {
	method := rng.Intn(2)
	var l []part
	for range 1 << order {
		o := coded(rng.Intn(mostParam[method] + 1))
		if about > 8+o.param || rng.Intn(3) == 0 {
			o = raw(min(about+1+rng.Intn(3), 31))
		}
		l = append(l, o)
	}
	return planOf(method, l...)
}
