package header_test

import (
	"math"
	"math/rand"
	"slices"
	"strconv"
	"strings"
	"testing"

	"jetsam/api"
	"jetsam/coded"
	"jetsam/header"
	"jetsam/sums"
)

// The tests hold the package against headers as texts of 0 and 1, put together and taken apart as the chapter's words
// go. The sum, and a Number's code, alone are those of packages sums and coded, as the chapter says of them.

// begin is what each header begins with.
const begin = "111111111111100"

// farNumbers are none that anything may be.
var farNumbers = []int{math.MinInt, math.MinInt + 1, -1 << 36, -1 << 32, -65535, 1 << 37, 1<<40 + 1, math.MaxInt - 1, math.MaxInt}

// codesNear are all numbers that codes and Modes may be, and some around them.
func codesNear() []int {
	l := append([]int{256, 1 << 16, 1<<16 + 1, 1 << 32, 1<<32 + 1, 1<<32 + 9}, farNumbers...)
	for n := -3; n <= 40; n++ {
		l = append(l, n)
	}
	return l
}

// isBlockCode, isRateCode, isMode and isDepthCode tell which ones are some.
func isBlockCode(code int) bool { return code >= 1 && code <= 15 }
func isRateCode(code int) bool  { return code >= 0 && code <= 14 }
func isMode(mode int) bool      { return mode >= 0 && mode <= 10 }
func isDepthCode(code int) bool { return code >= 0 && code <= 7 && code != 3 }

// channelsOf is how many channels a Mode has.
func channelsOf(mode int) int {
	if mode >= 8 {
		return 2
	}
	return mode + 1
}

// between tells whether a number is n times one from least to most.
func between(x, n, least, most int) bool {
	return x >= n*least && x <= n*most && (x-n*least)%n == 0
}

// tellsBlock, tellsRate and tellsDepth tell whether a code tells a number.
func tellsBlock(code, n int) bool {
	switch {
	case code == 1:
		return n == 192
	case code >= 2 && code <= 5:
		return n == []int{144 * 4, 144 * 8, 144 * 16, 144 * 32}[code-2]
	case code == 6:
		return between(n, 1, 1, 256)
	case code == 7:
		return between(n, 1, 1, 65535)
	case code >= 8 && code <= 15:
		return n == []int{256, 512, 1024, 2048, 4096, 8192, 16384, 32768}[code-8]
	}
	return false
}

func tellsRate(code, n int) bool {
	switch {
	case code >= 0 && code <= 11:
		return n == []int{0, 88200, 176400, 192000, 8000, 16000, 22050, 24000, 32000, 44100, 48000, 96000}[code]
	case code == 12:
		return between(n, 1000, 0, 255)
	case code == 13:
		return between(n, 1, 0, 65535)
	case code == 14:
		return between(n, 10, 0, 65535)
	}
	return false
}

func tellsDepth(code, n int) bool {
	switch code {
	case 0:
		return n == 0
	case 1, 2:
		return n == []int{8, 12}[code-1]
	case 4, 5, 6:
		return n == []int{16, 20, 24}[code-4]
	case 7:
		return n == 32
	}
	return false
}

// mayBe tells whether a Number may.
func mayBe(variable bool, n int) bool {
	return n >= 0 && (n <= 2147483647 || variable && n <= 68719476735)
}

// checkOf is what is wrong with a header.
func checkOf(h header.Header) api.Errno {
	switch {
	case !isBlockCode(h.BlockCode), !isRateCode(h.RateCode), !isMode(h.Mode), !isDepthCode(h.DepthCode):
		return api.ErrCode
	case !mayBe(h.Variable, h.Number):
		return api.ErrRange
	case !tellsBlock(h.BlockCode, h.Block), !tellsRate(h.RateCode, h.Rate), !tellsDepth(h.DepthCode, h.Depth):
		return api.ErrParam
	}
	return api.OK
}

// either is one error, if it is so, else another.
func either(so bool, one, other api.Errno) api.Errno {
	if so {
		return one
	}
	return other
}

// digits is a number's n digits.
func digits(n, v int) string {
	s := strconv.FormatInt(int64(v), 2)
	return strings.Repeat("0", n-len(s)) + s
}

// value is the number whose digits a text is.
func value(s string) int {
	v, err := strconv.ParseInt("0"+s, 2, 64)
	if err != nil {
		panic(err)
	}
	return int(v)
}

// textOf is bytes as digits, bytesOf is digits as bytes.
func textOf(b []byte) string {
	var s strings.Builder
	for _, v := range b {
		s.WriteString(digits(8, int(v)))
	}
	return s.String()
}

func bytesOf(s string) []byte {
	b := []byte{}
	for ; s != ""; s = s[8:] {
		b = append(b, byte(value(s[:8])))
	}
	return b
}

// summed is bytes with their sum.
func summed(b []byte) []byte { return append(slices.Clone(b), byte(sums.Sum8(b))) }

// written is the bytes of a header in which nothing is wrong.
func written(t *testing.T, h header.Header) []byte {
	t.Helper()
	variable := "0"
	if h.Variable {
		variable = "1"
	}
	number, e := coded.Put(h.Number)
	if e != api.OK {
		t.Fatal(h, int(e))
	}
	s := begin + variable + digits(4, h.BlockCode) + digits(4, h.RateCode) + digits(4, h.Mode) + digits(3, h.DepthCode) + "0" + textOf(number)
	switch h.BlockCode {
	case 6:
		s += digits(8, h.Block-1)
	case 7:
		s += digits(16, h.Block-1)
	}
	switch h.RateCode {
	case 12:
		s += digits(8, h.Rate/1000)
	case 13:
		s += digits(16, h.Rate)
	case 14:
		s += digits(16, h.Rate/10)
	}
	return summed(bytesOf(s))
}

// got is what Read answers.
type got struct {
	h header.Header
	n int
	e api.Errno
}

// read is what Read answers of bytes.
func read(b []byte) got {
	h, n, e := header.Read(b)
	return got{h, n, e}
}

// wrong is an error alone.
func wrong(e api.Errno) got { return got{e: e} }

// readOf is what Read has to answer of bytes.
func readOf(b []byte) got {
	if e := beginOf(b); e != api.OK {
		return wrong(e)
	}
	s := textOf(b[:4])
	h := header.Header{Variable: s[15] == '1', BlockCode: value(s[16:20]), RateCode: value(s[20:24]), Mode: value(s[24:28]), DepthCode: value(s[28:31])}
	number, size, e := coded.Get(b[4:])
	if e != api.OK {
		return wrong(e)
	}
	if !mayBe(h.Variable, number) {
		return wrong(api.ErrRange)
	}
	h.Number = number
	at := 4 + size
	take := func(many int) (v int) {
		for i := at; i < at+many && i < len(b); i++ {
			v = v*256 + int(b[i])
		}
		at += many
		return v
	}
	h.Block = blockRead(h.BlockCode, take)
	if at > len(b) {
		return wrong(api.ErrEnd)
	}
	if h.Block == 65536 {
		return wrong(api.ErrCode)
	}
	h.Rate = rateRead(h.RateCode, take)
	if at >= len(b) {
		return wrong(api.ErrEnd)
	}
	if int(b[at]) != sums.Sum8(b[:at]) {
		return wrong(api.ErrSum8)
	}
	for depth := 0; depth <= 32; depth++ {
		if tellsDepth(h.DepthCode, depth) {
			h.Depth = depth
		}
	}
	return got{h, at + 1, api.OK}
}

// beginOf is what is wrong with the first four bytes.
func beginOf(b []byte) api.Errno {
	for i := range 4 {
		if i >= len(b) {
			return api.ErrEnd
		}
		v := int(b[i])
		switch {
		case i == 0 && v != 0xff, i == 1 && v != 0xf8 && v != 0xf9:
			return api.ErrSync
		case i == 2 && (!isBlockCode(v/16) || !isRateCode(v%16)), i == 3 && (!isMode(v/16) || !isDepthCode(v%16/2)):
			return api.ErrCode
		case i == 3 && v%2 == 1:
			return api.ErrForm
		}
	}
	return api.OK
}

// blockRead and rateRead are what codes tell by bytes that are taken.
func blockRead(code int, take func(many int) int) int {
	switch code {
	case 6:
		return take(1) + 1
	case 7:
		return take(2) + 1
	}
	return []int{0, 192, 576, 1152, 2304, 4608, 0, 0, 256, 512, 1024, 2048, 4096, 8192, 16384, 32768}[code]
}

func rateRead(code int, take func(many int) int) int {
	switch code {
	case 12:
		return 1000 * take(1)
	case 13:
		return take(2)
	case 14:
		return 10 * take(2)
	}
	return []int{0, 88200, 176400, 192000, 8000, 16000, 22050, 24000, 32000, 44100, 48000, 96000}[code]
}

// someBlocks and someRates are of what a code tells the first and the last, and some between; someNumbers are Numbers
// around each length of code.
func someBlocks(code int) []int {
	return slices.DeleteFunc([]int{1, 2, 16, 192, 193, 255, 256, 257, 512, 576, 1024, 1152, 2048, 2304, 4096, 4608, 8192, 16384, 32767, 32768, 65534, 65535}, func(n int) bool { return !tellsBlock(code, n) })
}

func someRates(code int) []int {
	return slices.DeleteFunc([]int{0, 1, 9, 10, 255, 256, 1000, 7000, 8000, 16000, 22050, 24000, 32000, 44100, 48000, 65530, 65535, 88200, 96000, 176400, 192000, 254000, 255000, 256000, 655340, 655350}, func(n int) bool { return !tellsRate(code, n) })
}

func someNumbers(variable bool) []int {
	l := []int{0, 1}
	for _, power := range []int{7, 11, 16, 21, 26, 31, 36} {
		l = append(l, 1<<power-1, 1<<power)
	}
	return slices.DeleteFunc(l, func(n int) bool { return !mayBe(variable, n) })
}

// depthOf is what a DepthCode tells.
func depthOf(code int) int { return []int{0, 8, 12, 0, 16, 20, 24, 32}[code] }

// allHeaders goes through headers of every code, Mode and sign, with some of the numbers that these have.
func allHeaders(yield func(h header.Header) bool) {
	at := 0
	for block := 1; block <= 15; block++ {
		for rate := range 15 {
			for mode := range 11 {
				for _, depth := range []int{0, 1, 2, 4, 5, 6, 7} {
					for _, variable := range []bool{false, true} {
						at++
						h := header.Header{Variable: variable, BlockCode: block, RateCode: rate, Mode: mode, DepthCode: depth, Depth: depthOf(depth)}
						h.Block = among(someBlocks(block), at)
						h.Rate = among(someRates(rate), at)
						h.Number = among(someNumbers(variable), at/2)
						if !yield(h) {
							return
						}
					}
				}
			}
		}
	}
}

// among is one of a list, by a number.
func among(l []int, at int) int { return l[at%len(l)] }

// randomHeader is one in which nothing is wrong.
func randomHeader(rng *rand.Rand) header.Header {
	h := header.Header{Variable: rng.Intn(2) == 1, BlockCode: 1 + rng.Intn(15), RateCode: rng.Intn(15), Mode: rng.Intn(11), DepthCode: among([]int{0, 1, 2, 4, 5, 6, 7}, rng.Intn(7))}
	h.Depth = depthOf(h.DepthCode)
	power := 31
	if h.Variable {
		power = 36
	}
	h.Number = rng.Intn(1 << (1 + rng.Intn(power)))
	take := func(many int) int { return rng.Intn(1<<(8*many) - 1) }
	h.Block, h.Rate = blockRead(h.BlockCode, take), rateRead(h.RateCode, take)
	return h
}

// randomBytes is so many.
func randomBytes(rng *rand.Rand, n int) []byte {
	b := make([]byte, n)
	rng.Read(b)
	return b
}
