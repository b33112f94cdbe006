package header

import (
	"jetsam/api"
)

// row is what a code tells: a number from least to most, times unit. How much that number is more than least stands in
// so many bits behind the header's Number. A row of zeros is of a code that is none.
type row struct {
	unit, least, most, size int
}

// table is the rows of codes.
type table [16]row

var blocks = table{
	1:  {192, 1, 1, 0},
	2:  {576, 1, 1, 0},
	3:  {1152, 1, 1, 0},
	4:  {2304, 1, 1, 0},
	5:  {4608, 1, 1, 0},
	6:  {1, 1, 256, 8},
	7:  {1, 1, api.MaxBlock, 16},
	8:  {256, 1, 1, 0},
	9:  {512, 1, 1, 0},
	10: {1024, 1, 1, 0},
	11: {2048, 1, 1, 0},
	12: {4096, 1, 1, 0},
	13: {8192, 1, 1, 0},
	14: {16384, 1, 1, 0},
	15: {32768, 1, 1, 0},
}

var rates = table{
	0:  {1, 0, 0, 0},
	1:  {88200, 1, 1, 0},
	2:  {176400, 1, 1, 0},
	3:  {192000, 1, 1, 0},
	4:  {8000, 1, 1, 0},
	5:  {16000, 1, 1, 0},
	6:  {22050, 1, 1, 0},
	7:  {24000, 1, 1, 0},
	8:  {32000, 1, 1, 0},
	9:  {44100, 1, 1, 0},
	10: {48000, 1, 1, 0},
	11: {96000, 1, 1, 0},
	12: {1000, 0, 255, 8},
	13: {1, 0, 65535, 16},
	14: {10, 0, 65535, 16},
}

var depths = table{
	0: {1, 0, 0, 0},
	1: {8, 1, 1, 0},
	2: {12, 1, 1, 0},
	4: {16, 1, 1, 0},
	5: {20, 1, 1, 0},
	6: {24, 1, 1, 0},
	7: {32, 1, 1, 0},
}

// channels is how many each Mode has.
var channels = [11]int{1, 2, 3, 4, 5, 6, 7, 8, 2, 2, 2}

// Channels is how many channels a mode has.
func Channels(mode int) (int, api.Errno) {
	if mode < 0 || mode >= len(channels) {
		return 0, api.ErrCode
	}
	return channels[mode], api.OK
}

// row is a code's; one that tells nothing, if the code is none.
func (t table) row(code int) row {
	if code < 0 || code >= len(t) {
		return row{}
	}
	return t[code]
}

// has tells whether a code is one.
func (t table) has(code int) bool { return t.row(code).unit != 0 }

// shortest is the code that tells a number in the fewest bits, of several the least one, and what it tells; if none
// tells it, both are 0: the code by which a Rate, or a Depth, is not told.
func (t table) shortest(n int) (code, told int) {
	found := false
	for i, r := range t {
		if r.tells(n) && (!found || r.size < t[code].size) {
			code, told, found = i, n, true
		}
	}
	return code, told
}

// tells tells whether a code may tell a number.
func (r row) tells(n int) bool {
	return r.unit != 0 && n%r.unit == 0 && r.least <= n/r.unit && n/r.unit <= r.most
}
