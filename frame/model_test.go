package frame_test

import (
	"fmt"
	"math"
	"math/rand"
	"slices"
	"strconv"
	"strings"
	"testing"

	"jetsam/api"
	"jetsam/bits"
	"jetsam/frame"
	"jetsam/header"
	"jetsam/predict"
	"jetsam/rice"
	"jetsam/subframe"
	"jetsam/sums"
)

// The tests hold the package against frames as texts of 0 and 1, put together and taken apart as the chapter's words go.
// A header, a channel, and sums alone are those of packages header, subframe and sums, as the chapter says of them; of two
// channels the tests have equations of their own.

// farNumbers are none that anything may be.
var farNumbers = []int{math.MinInt, math.MinInt + 1, -1 << 32, -65536, -1, 1 << 37, 1<<40 + 1, math.MaxInt - 1, math.MaxInt}

// depths are all that headers tell, and their codes.
var depths = map[int]int{8: 1, 12: 2, 16: 4, 20: 5, 24: 6, 32: 7}

// least and most are the samples of a depth at its bounds.
func least(depth int) int { return -1 << (depth - 1) }
func most(depth int) int  { return 1<<(depth-1) - 1 }

// isSample tells whether a number is one of a depth.
func isSample(depth, x int) bool { return least(depth) <= x && x <= most(depth) }

// channelsOf is how many channels a Mode has.
func channelsOf(mode int) int {
	if mode >= 8 {
		return 2
	}
	return mode + 1
}

// bitsOf is how many bits what is written of a channel has.
func bitsOf(depth, mode, channel int) int {
	if mode == 8 && channel == 1 || mode == 9 && channel == 0 || mode == 10 && channel == 1 {
		return depth + 1
	}
	return depth
}

// half is half a number, rounded down.
func half(x int) int { return int(math.Floor(float64(x) / 2)) }

// partsOf is what is written of channels.
func partsOf(mode int, channels [][]int) [][]int {
	parts := make([][]int, len(channels))
	for i, l := range channels {
		parts[i] = slices.Clone(l)
	}
	for i := range channels[0] {
		if mode < 8 {
			break
		}
		left, right := channels[0][i], channels[1][i]
		two := map[int][2]int{8: {left, left - right}, 9: {left - right, right}, 10: {half(left + right), left - right}}[mode]
		parts[0][i], parts[1][i] = two[0], two[1]
	}
	return parts
}

// joinedOf is the channels of what is written.
func joinedOf(mode int, parts [][]int) [][]int {
	for i := range parts[0] {
		if mode < 8 {
			break
		}
		// Of all left samples the one whose parts, with a right one, are these.
		a, b := parts[0][i], parts[1][i]
		left := map[int]int{8: a, 9: a + b, 10: a + half(b+1)}[mode]
		right := map[int]int{8: a - b, 9: b, 10: a + half(b+1) - b}[mode]
		parts[0][i], parts[1][i] = left, right
	}
	return parts
}

// depthOf is what Depth has to answer.
func depthOf(h header.Header, p api.Params) (int, api.Errno) {
	fits := h.Rate == 0 || p.Rate == 0 || h.Rate == p.Rate
	fits = fits && (h.Depth == 0 || p.Depth == 0 || h.Depth == p.Depth)
	fits = fits && (p.Channels == 0 || h.Mode >= 0 && h.Mode <= 10 && p.Channels == channelsOf(h.Mode))
	depth := max(h.Depth, p.Depth)
	if !fits || h.Depth < 0 || p.Depth < 0 || depth < 4 || depth > 32 {
		return 0, api.ErrParam
	}
	return depth, api.OK
}

// digits is a number's n digits; of one below 0 those of as much more as is beyond n digits.
func digits(n, v int) string {
	if v < 0 {
		v += 1 << n
	}
	s := strconv.FormatInt(int64(v), 2)
	return strings.Repeat("0", n-len(s)) + s
}

// textOf is bytes as digits, bytesOf is digits, among which there may be blanks, as bytes.
func textOf(b []byte) string {
	var s strings.Builder
	for _, v := range b {
		s.WriteString(digits(8, int(v)))
	}
	return s.String()
}

func bytesOf(s string) []byte {
	s = strings.ReplaceAll(s, " ", "")
	b := make([]byte, 0, len(s)/8)
	for ; s != ""; s = s[8:] {
		v, err := strconv.ParseUint(s[:8], 2, 8)
		if err != nil {
			panic(err)
		}
		b = append(b, byte(v))
	}
	return b
}

// summed is bytes, and their sum of 16 bits.
func summed(b []byte) []byte {
	sum := sums.Sum16(b)
	return append(slices.Clone(b), byte(sum/256), byte(sum%256))
}

// headed is a header's first bytes, their sum, a text of the channels, and the sum of all that.
func headed(head, text string) []byte {
	b := append([]byte(head), byte(sums.Sum8([]byte(head))))
	return summed(append(b, bytesOf(text)...))
}

// channelText is a channel by a plan, as package subframe writes it.
func channelText(t *testing.T, p subframe.Plan, depth int, l []int) string {
	t.Helper()
	w := bits.NewWriter()
	if e := subframe.Write(w, p, depth, l...); e != api.OK {
		t.Fatal(p, depth, len(l), int(e))
	}
	return textOf(w.Bytes())[:w.Len()]
}

// writtenOf is what Write has to answer of a frame in which nothing is wrong.
func writtenOf(t *testing.T, f frame.Frame, depth int) []byte {
	t.Helper()
	head, e := header.Write(f.Header)
	if e != api.OK {
		t.Fatal(f.Header, int(e))
	}
	var s strings.Builder
	for i, l := range partsOf(f.Mode, f.Samples) {
		s.WriteString(channelText(t, f.Plans[i], bitsOf(depth, f.Mode, i), l))
	}
	for s.Len()%8 != 0 {
		s.WriteString("0")
	}
	return summed(append(head, bytesOf(s.String())...))
}

// got is what Read answers.
type got struct {
	f frame.Frame
	n int
	e api.Errno
}

// readOf is what Read has to answer of bytes.
func readOf(b []byte, p api.Params) got {
	h, n, e := header.Read(b)
	if e != api.OK {
		return got{e: e}
	}
	depth, e := depthOf(h, p)
	if e != api.OK {
		return got{e: e}
	}
	f := frame.Frame{Header: h}
	r := bits.NewReader(b)
	r.Seek(8 * n)
	for i := range channelsOf(h.Mode) {
		l, plan, e := subframe.Read(r, h.Block, bitsOf(depth, h.Mode, i))
		if e != api.OK {
			return got{e: e}
		}
		f.Samples, f.Plans = append(f.Samples, l), append(f.Plans, plan)
	}
	at := r.At()
	whole := (at + 7) / 8
	switch {
	case strings.Contains(textOf(b[at/8 : whole])[at-at/8*8:], "1"):
		return got{e: api.ErrForm}
	case whole+2 > len(b):
		return got{e: api.ErrEnd}
	case sums.Sum16(b[:whole]) != int(b[whole])*256+int(b[whole+1]):
		return got{e: api.ErrSum16}
	}
	f.Samples = joinedOf(h.Mode, f.Samples)
	for _, x := range slices.Concat(f.Samples...) {
		if !isSample(depth, x) {
			return got{e: api.ErrRange}
		}
	}
	return got{f, whole + 2, api.OK}
}

// same tells whether two frames are; of plans the texts are held against each other, in which all lists without elements
// are alike.
func same(f, g frame.Frame) bool {
	return f.Header == g.Header && slices.EqualFunc(f.Samples, g.Samples, slices.Equal[[]int]) && fmt.Sprint(f.Plans) == fmt.Sprint(g.Plans)
}

// short is the beginning of a thing's text.
func short(v any) string {
	s := fmt.Sprintf("%+v", v)
	return s[:min(len(s), 400)]
}

// reads tells that Read answers something of bytes.
func reads(t *testing.T, b []byte, p api.Params, want got) {
	t.Helper()
	f, n, e := frame.Read(b, p)
	if !same(f, want.f) || n != want.n || e != want.e {
		t.Fatalf("%x of %d bytes, %+v: %s, not %s", b[:min(len(b), 60)], len(b), p, short(got{f, n, e}), short(want))
	}
}

// readsError tells that it answers an error alone.
func readsError(t *testing.T, b []byte, p api.Params, e api.Errno) {
	t.Helper()
	reads(t, b, p, got{e: e})
}

// writes tells that Write answers bytes.
func writes(t *testing.T, f frame.Frame, p api.Params, want []byte) {
	t.Helper()
	if b, e := frame.Write(f, p); !slices.Equal(b, want) || e != api.OK {
		t.Fatalf("%s, %+v: %.80x, error %d, not %.80x", short(f), p, b, int(e), want)
	}
}

// writesError tells that it answers an error alone.
func writesError(t *testing.T, f frame.Frame, p api.Params, want api.Errno) {
	t.Helper()
	if b, e := frame.Write(f, p); len(b) != 0 || e != want {
		t.Fatalf("%s, %+v: %.80x, error %d, not %d", short(f), p, b, int(e), int(want))
	}
}

// cloned is a frame of its own memory.
func cloned(f frame.Frame) frame.Frame {
	f.Plans, f.Samples = slices.Clone(f.Plans), slices.Clone(f.Samples)
	for i := range f.Plans {
		p := &f.Plans[i]
		p.Linear.Coefs, p.Rice.Params, p.Rice.Bits = slices.Clone(p.Linear.Coefs), slices.Clone(p.Rice.Params), slices.Clone(p.Rice.Bits)
	}
	for i := range f.Samples {
		f.Samples[i] = slices.Clone(f.Samples[i])
	}
	return f
}

// verbatim is as many plans of that Kind.
func verbatim(n int) []subframe.Plan {
	return slices.Repeat([]subframe.Plan{{Kind: subframe.Verbatim}}, n)
}

// headerOf is one of a Mode and a block, that tells neither a rate nor a depth.
func headerOf(mode, block int) header.Header {
	return header.Header{BlockCode: 7, Mode: mode, Block: block}
}

// withDepth is a header that tells a depth.
func withDepth(h header.Header, depth int) header.Header {
	h.DepthCode, h.Depth = depths[depth], depth
	return h
}

// randomSamples is so many of a depth: some loud, some near each other, some divided by 2.
func randomSamples(rng *rand.Rand, n, depth int) []int {
	l := make([]int, n)
	kind, by := rng.Intn(4), 1<<rng.Intn(min(depth, 5))
	for i := range l {
		switch l[i] = least(depth) + rng.Intn(1<<depth); rng.Intn(12) {
		case 0:
			l[i] = least(depth)
		case 1:
			l[i] = most(depth)
		}
		if i > 0 && kind >= 2 {
			l[i] = min(max(l[i-1]+rng.Intn(5)-2, least(depth)), most(depth))
		}
		if i > 0 && kind == 1 {
			l[i] = l[0]
		}
	}
	for i := range l {
		l[i] -= l[i] & (by - 1)
	}
	return l
}

// randomPlan is one by which a channel may be written.
func randomPlan(rng *rand.Rand, depth int, l []int) subframe.Plan {
	p := subframe.Plan{Kind: rng.Intn(4)}
	own := slices.Clone(l)
	odd := func(x int) bool { return x%2 != 0 }
	for rng.Intn(4) > 0 && p.Wasted < depth-1 && !slices.ContainsFunc(own, odd) {
		p.Wasted++
		for i := range own {
			own[i] /= 2
		}
	}
	by := predict.Linear{}
	switch p.Kind {
	case subframe.Fixed:
		p.Order = rng.Intn(5)
		by, _ = predict.Fixed(p.Order)
	case subframe.Linear:
		p.Order = 1 + rng.Intn(min(32, len(l)))
		by = predict.Linear{Precision: 1 + rng.Intn(15), Shift: rng.Intn(16)}
		for range p.Order {
			by.Coefs = append(by.Coefs, rng.Intn(1<<by.Precision)+least(by.Precision))
		}
		p.Linear = by
	}
	if p.Kind >= subframe.Fixed && len(l) > p.Order {
		residuals, _ := predict.Residual(by, own...)
		p.Rice, _ = rice.Best(rng.Intn(4), p.Order, residuals...)
	}
	if subframe.Check(p, depth, l...) != api.OK {
		return subframe.Plan{Kind: subframe.Verbatim, Wasted: p.Wasted}
	}
	return p
}

// sound is a frame in which nothing is wrong, parameters that it fits, and its depth.
type sound struct {
	f     frame.Frame
	p     api.Params
	depth int
}

// randomHeader is one in which nothing is wrong, and parameters that it fits.
func randomHeader(rng *rand.Rand) (h header.Header, p api.Params, depth int) {
	h = headerOf(rng.Intn(11), 1+rng.Intn(12)<<rng.Intn(3))
	switch rng.Intn(12) {
	case 0:
		h.BlockCode, h.Block = 1, 192
	case 1:
		h.BlockCode, h.Block = 8, 256
	case 2, 3, 4, 5:
		h.BlockCode = 6
	}
	h.Variable, h.Number = rng.Intn(2) == 0, rng.Intn(1<<(1+rng.Intn(31)))
	h.RateCode = []int{0, 9, 12, 13, 14}[rng.Intn(5)]
	h.Rate = map[int]int{9: 44100, 12: 1000 * rng.Intn(256), 13: rng.Intn(65536), 14: 10 * rng.Intn(65536)}[h.RateCode]
	depth = 4 + rng.Intn(29)
	if rng.Intn(2) == 0 {
		depth = []int{8, 12, 16, 20, 24, 32}[rng.Intn(6)]
		h = withDepth(h, depth)
	}
	if h.Depth == 0 || rng.Intn(2) == 0 {
		p.Depth = depth
	}
	if p.Channels = channelsOf(h.Mode); rng.Intn(2) == 0 {
		p.Channels = 0
	}
	if p.Rate = h.Rate; h.Rate == 0 || rng.Intn(2) == 0 {
		p.Rate = rng.Intn(2) * h.Rate
	}
	if h.Rate == 0 {
		p.Rate = rng.Intn(1 << 20)
	}
	return h, p, depth
}

// randomSound is one of any Mode, depth and plans.
func randomSound(rng *rand.Rand) sound {
	h, p, depth := randomHeader(rng)
	f := frame.Frame{Header: h}
	for i := range channelsOf(h.Mode) {
		f.Samples = append(f.Samples, randomSamples(rng, h.Block, depth))
		if i == 1 && rng.Intn(2) == 0 {
			// Two channels that are alike, or the same.
			at := rng.Intn(h.Block)
			copy(f.Samples[1][at:], f.Samples[0][at:])
		}
	}
	for i, l := range partsOf(h.Mode, f.Samples) {
		f.Plans = append(f.Plans, randomPlan(rng, bitsOf(depth, h.Mode, i), l))
	}
	return sound{f, p, depth}
}

// overwrite writes into all that a frame has, and behind it, as far as its memory goes.
func overwrite(f frame.Frame) {
	spoil := func(lists ...[]int) {
		for _, l := range lists {
			l = l[:cap(l)]
			for i := range l {
				l[i] = 77777777
			}
		}
	}
	for _, p := range f.Plans {
		spoil(p.Linear.Coefs, p.Rice.Params, p.Rice.Bits)
	}
	spoil(f.Samples...)
	clear(f.Plans[:cap(f.Plans)])
	clear(f.Samples[:cap(f.Samples)])
}
