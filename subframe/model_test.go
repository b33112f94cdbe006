package subframe_test

import (
	"fmt"
	"math/rand"
	"slices"
	"strconv"
	"strings"
	"testing"

	"jetsam/api"
	"jetsam/bits"
	"jetsam/predict"
	"jetsam/rice"
	"jetsam/subframe"
)

// The tests hold the package against channels as texts of 0 and 1, put together and taken apart as the chapter's words
// go. Residuals alone are written, and read, by package rice, as the chapter says of them.

// constant, verbatim, fixed and linear are plans of each Kind.
func constant(wasted int) subframe.Plan {
	return subframe.Plan{Kind: subframe.Constant, Wasted: wasted}
}

func verbatim(wasted int) subframe.Plan {
	return subframe.Plan{Kind: subframe.Verbatim, Wasted: wasted}
}

func fixed(order, wasted int, r rice.Plan) subframe.Plan {
	return subframe.Plan{Kind: subframe.Fixed, Order: order, Wasted: wasted, Rice: r}
}

func linear(wasted int, p predict.Linear, r rice.Plan) subframe.Plan {
	return subframe.Plan{Kind: subframe.Linear, Order: len(p.Coefs), Wasted: wasted, Linear: p, Rice: r}
}

// telling is a prediction.
func telling(precision, shift int, coefs ...int) predict.Linear {
	return predict.Linear{Precision: precision, Shift: shift, Coefs: coefs}
}

// coded is residuals' plan of parts that have parameters, raw one of parts that have Bits.
func coded(method int, params ...int) rice.Plan {
	return rice.Plan{Method: method, Order: len(digitsOf(len(params))) - 1, Params: params, Bits: make([]int, len(params))}
}

func raw(method int, widths ...int) rice.Plan {
	p := coded(method, slices.Repeat([]int{rice.Raw}, len(widths))...)
	p.Bits = widths
	return p
}

// cloned is a plan of its own memory.
func cloned(p subframe.Plan) subframe.Plan {
	p.Linear.Coefs = slices.Clone(p.Linear.Coefs)
	p.Rice.Params, p.Rice.Bits = slices.Clone(p.Rice.Params), slices.Clone(p.Rice.Bits)
	return p
}

// short is the beginning of what is told of a thing.
func short(v any) string {
	s := fmt.Sprint(v)
	return s[:min(len(s), 200)]
}

// same tells whether two plans are.
func same(a, b subframe.Plan) bool {
	return a.Kind == b.Kind && a.Order == b.Order && a.Wasted == b.Wasted &&
		a.Linear.Precision == b.Linear.Precision && a.Linear.Shift == b.Linear.Shift && slices.Equal(a.Linear.Coefs, b.Linear.Coefs) &&
		a.Rice.Method == b.Rice.Method && a.Rice.Order == b.Rice.Order &&
		slices.Equal(a.Rice.Params, b.Rice.Params) && slices.Equal(a.Rice.Bits, b.Rice.Bits)
}

// digitsOf is a number's digits, digits as many as are asked for.
func digitsOf(v int) string { return strconv.FormatInt(int64(v), 2) }

func digits(n, v int) string {
	s := digitsOf(v)
	return strings.Repeat("0", n-len(s)) + s
}

// signed is a signed number of so many bits.
func signed(n, v int) string {
	if v < 0 {
		v += 1 << n
	}
	return digits(n, v)
}

// plain is a text without its blanks.
func plain(s string) string { return strings.ReplaceAll(s, " ", "") }

// least and most are the samples of a depth at its bounds.
func least(depth int) int { return -1 << (depth - 1) }
func most(depth int) int  { return 1<<(depth-1) - 1 }

// headText is what stands ahead of a channel's samples.
func headText(p subframe.Plan) string {
	code := [4]string{"000000", "000001", "001", "1"}[p.Kind]
	switch p.Kind {
	case subframe.Fixed:
		code += digits(3, p.Order)
	case subframe.Linear:
		code += digits(5, p.Order-1)
	}
	if p.Wasted == 0 {
		return "0" + code + "0"
	}
	return "0" + code + "1" + strings.Repeat("0", p.Wasted-1) + "1"
}

// toldOf is what samples ahead tell of the next one.
func toldOf(p subframe.Plan, ahead []int) int {
	coefs, shift := p.Linear.Coefs, p.Linear.Shift
	if p.Kind == subframe.Fixed {
		coefs, shift = [5][]int{{}, {1}, {2, -1}, {3, -3, 1}, {4, -6, 4, -1}}[p.Order], 0
	}
	sum, by := 0, 1<<shift
	for i, c := range coefs {
		sum += c * ahead[len(ahead)-1-i]
	}
	if sum < 0 && sum%by != 0 {
		return sum/by - 1
	}
	return sum / by
}

// without is samples divided so often by 2.
func without(l []int, wasted int) []int {
	l = slices.Clone(l)
	for i := range l {
		l[i] /= 1 << wasted
	}
	return l
}

// with is samples so often doubled.
func with(l []int, wasted int) []int {
	l = slices.Clone(l)
	for i := range l {
		l[i] *= 1 << wasted
	}
	return l
}

// residualsOf is what a plan leaves of divided samples.
func residualsOf(p subframe.Plan, l []int) []int {
	var d []int
	for at := p.Order; at < len(l); at++ {
		d = append(d, l[at]-toldOf(p, l[:at]))
	}
	return d
}

// restoredOf is the samples again.
func restoredOf(p subframe.Plan, first, residuals []int) []int {
	l := slices.Clone(first)
	for _, d := range residuals {
		l = append(l, toldOf(p, l)+d)
	}
	return l
}

// channelText is a channel by a plan that Check takes.
func channelText(t *testing.T, p subframe.Plan, depth int, l []int) string {
	t.Helper()
	l = without(l, p.Wasted)
	depth -= p.Wasted
	own := l
	switch p.Kind {
	case subframe.Constant:
		own = l[:1]
	case subframe.Fixed, subframe.Linear:
		own = l[:p.Order]
	}
	var s strings.Builder
	s.WriteString(headText(p))
	for _, x := range own {
		s.WriteString(signed(depth, x))
	}
	if p.Kind == subframe.Linear {
		s.WriteString(linearText(p.Linear))
	}
	if p.Kind >= subframe.Fixed {
		s.WriteString(riceText(t, p.Rice, p.Order, residualsOf(p, l)))
	}
	return s.String()
}

// linearText is a prediction.
func linearText(p predict.Linear) string {
	s := digits(4, p.Precision-1) + signed(5, p.Shift)
	for _, c := range p.Coefs {
		s += signed(p.Precision, c)
	}
	return s
}

// riceText is residuals, as package rice writes them.
func riceText(t *testing.T, p rice.Plan, skip int, l []int) string {
	t.Helper()
	w := bits.NewWriter()
	if e := rice.Write(w, p, skip, l...); e != api.OK {
		t.Fatal(p, skip, len(l), int(e))
	}
	return textOf(w)
}

// textOf is all bits of a Writer, behind which there are none but noughts up to a whole byte.
func textOf(w *bits.Writer) string {
	var s strings.Builder
	for _, b := range w.Bytes() {
		s.WriteString(digits(8, int(b)))
	}
	return s.String()[:w.Len()]
}

// readerOf is a Reader that stands at a text's beginning; behind the text no bit stands, and ahead of it so many ones that
// there are whole bytes.
func readerOf(t *testing.T, s string) *bits.Reader {
	t.Helper()
	pad := (8 - len(s)%8) % 8
	s = strings.Repeat("1", pad) + s
	var b []byte
	for ; s != ""; s = s[8:] {
		v, err := strconv.ParseUint(s[:8], 2, 8)
		if err != nil {
			t.Fatal(err)
		}
		b = append(b, byte(v))
	}
	r := bits.NewReader(b)
	if e := r.Seek(pad); e != api.OK {
		t.Fatal(pad, int(e))
	}
	return r
}

// got is what Read answers, and over how many bits the Reader went.
type got struct {
	l    []int
	p    subframe.Plan
	e    api.Errno
	used int
}

func (g got) same(o got) bool {
	return slices.Equal(g.l, o.l) && same(g.p, o.p) && g.e == o.e && g.used == o.used
}

// read is what Read answers of a text.
func read(t *testing.T, s string, block, depth int) got {
	t.Helper()
	r := readerOf(t, s)
	at := r.At()
	var g got
	g.l, g.p, g.e = subframe.Read(r, block, depth)
	g.used = r.At() - at
	return g
}

// tape is a text that is read, up to a first error.
type tape struct {
	s    string
	at   int
	fail api.Errno
}

func (t *tape) set(e api.Errno) {
	if t.fail == api.OK {
		t.fail = e
	}
}

// take is the next n digits.
func (t *tape) take(n int) string {
	if t.fail != api.OK || t.at+n > len(t.s) {
		t.set(api.ErrEnd)
		return strings.Repeat("0", n)
	}
	t.at += n
	return t.s[t.at-n : t.at]
}

func (t *tape) number(n int) int {
	v := 0
	for _, d := range t.take(n) {
		v = 2*v + int(d-'0')
	}
	return v
}

func (t *tape) signed(n int) int {
	v := t.number(n)
	if v >= 1<<(n-1) {
		v -= 1 << n
	}
	return v
}

// plan is the Kind, and the Order, that 6 digits tell.
func (t *tape) plan() subframe.Plan {
	code := t.take(6)
	three, _ := strconv.ParseInt(code[3:], 2, 64)
	five, _ := strconv.ParseInt(code[1:], 2, 64)
	switch {
	case code == "000000":
		return constant(0)
	case code == "000001":
		return verbatim(0)
	case strings.HasPrefix(code, "001") && three <= 4:
		return fixed(int(three), 0, rice.Plan{})
	case strings.HasPrefix(code, "1"):
		return subframe.Plan{Kind: subframe.Linear, Order: int(five) + 1}
	}
	t.set(api.ErrCode)
	return subframe.Plan{}
}

// wasted is how often samples were divided.
func (t *tape) wasted(depth int) int {
	if t.take(1) == "0" {
		return 0
	}
	for n := 1; ; n++ {
		if t.take(1) == "1" {
			if n >= depth {
				t.set(api.ErrRange)
			}
			return n
		}
		if t.fail != api.OK {
			return 0
		}
	}
}

// linear is a prediction of so many coefficients.
func (t *tape) linear(order int) predict.Linear {
	p := predict.Linear{Precision: t.number(4) + 1}
	if p.Precision == 16 {
		t.set(api.ErrCode)
	}
	if p.Shift = t.signed(5); p.Shift < 0 {
		t.set(api.ErrRange)
	}
	for range order {
		p.Coefs = append(p.Coefs, t.signed(p.Precision))
	}
	return p
}

// residuals is what package rice reads.
func (t *tape) residuals(tt *testing.T, block, skip int) ([]int, rice.Plan) {
	tt.Helper()
	if t.fail != api.OK {
		return nil, rice.Plan{}
	}
	r := readerOf(tt, t.s[t.at:])
	at := r.At()
	l, p, e := rice.Read(r, block, skip)
	t.set(e)
	t.at += r.At() - at
	return l, p
}

// readText is what Read has to answer of a text.
func readText(tt *testing.T, s string, block, depth int) got {
	tt.Helper()
	t := &tape{s: s}
	if t.take(1) == "1" {
		t.set(api.ErrForm)
	}
	p := t.plan()
	p.Wasted = t.wasted(depth)
	if t.fail != api.OK {
		return got{e: t.fail}
	}
	depth -= p.Wasted
	var l []int
	for range [4]int{1, block, p.Order, p.Order}[p.Kind] {
		l = append(l, t.signed(depth))
	}
	switch p.Kind {
	case subframe.Constant:
		l = slices.Repeat(l, block)
	case subframe.Linear:
		p.Linear = t.linear(p.Order)
	}
	if p.Kind >= subframe.Fixed {
		var d []int
		d, p.Rice = t.residuals(tt, block, p.Order)
		if t.fail == api.OK {
			l = restoredOf(p, l, d)
		}
	}
	for _, x := range l {
		if x < least(depth) || x > most(depth) {
			t.set(api.ErrRange)
			// What samples beyond the bounds tell may be beyond any number.
			break
		}
	}
	if t.fail != api.OK {
		return got{e: t.fail}
	}
	return got{with(l, p.Wasted), p, api.OK, t.at}
}

// randomSample is one of a depth, the bounds among them.
func randomSample(rng *rand.Rand, depth int) int {
	switch rng.Intn(12) {
	case 0:
		return least(depth)
	case 1:
		return most(depth)
	case 2:
		return 0
	}
	return rng.Intn(1<<depth) + least(depth)
}

// randomSamples is so many of a depth: some loud, some near each other.
func randomSamples(rng *rand.Rand, n, depth int) []int {
	l := make([]int, n)
	loud := rng.Intn(2) == 0
	for i := range l {
		l[i] = randomSample(rng, depth)
		if i > 0 && !loud {
			l[i] = min(max(l[i-1]+rng.Intn(5)-2, least(depth)), most(depth))
		}
	}
	return l
}

// randomTelling is a prediction.
func randomTelling(rng *rand.Rand, order int) predict.Linear {
	p := telling(1+rng.Intn(15), rng.Intn(16))
	for range order {
		p.Coefs = append(p.Coefs, randomSample(rng, p.Precision))
	}
	return p
}

// channel is samples, and a plan that Check takes of them.
type channel struct {
	p     subframe.Plan
	depth int
	l     []int
}

// randomChannel is one of any Kind, any depth, and any Wasted.
func randomChannel(rng *rand.Rand) channel {
	for {
		c := channel{depth: 4 + rng.Intn(30)}
		wasted := 0
		if rng.Intn(2) == 0 {
			wasted = rng.Intn(c.depth)
		}
		block := 1 + rng.Intn(12)<<rng.Intn(4)
		own := randomSamples(rng, block, c.depth-wasted)
		switch kind := rng.Intn(4); kind {
		case subframe.Constant:
			c.p, own = constant(wasted), slices.Repeat(own[:1], block)
		case subframe.Verbatim:
			c.p = verbatim(wasted)
		case subframe.Fixed:
			c.p = fixed(rng.Intn(5), wasted, rice.Plan{})
		default:
			c.p = linear(wasted, randomTelling(rng, 1+rng.Intn(32)), rice.Plan{})
		}
		c.l = with(own, wasted)
		if c.p.Kind < subframe.Fixed || residualsMayBe(rng, &c, own) {
			return c
		}
	}
}

// residualsMayBe gives a channel a plan of its residuals, if there is one.
func residualsMayBe(rng *rand.Rand, c *channel, own []int) bool {
	if len(own) <= c.p.Order {
		return false
	}
	p, e := rice.Best(rng.Intn(5), c.p.Order, residualsOf(c.p, own)...)
	if e != api.OK {
		return false
	}
	// Any plan, not just the best one: of the parts some have a greater parameter, or greater Bits.
	for i := range p.Params {
		if rng.Intn(2) == 0 && p.Params[i] == rice.Raw {
			p.Bits[i] = min(p.Bits[i]+rng.Intn(3), 31)
		} else if rng.Intn(2) == 0 && p.Params[i] >= 0 && p.Params[i] < 14 {
			p.Params[i]++
		}
	}
	c.p.Rice = p
	return true
}
