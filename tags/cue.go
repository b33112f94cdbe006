package tags

import "jetsam/api"

// How many bytes there are of texts, with the noughts behind them, and of noughts alone.
const (
	catalogSize = 128
	codeSize    = 12
	cueGap      = 258
	trackGap    = 13
	indexGap    = 3
)

// How many tracks a cue sheet has at most, and indexes a track.
const (
	maxTracks  = 100
	maxIndexes = 100
)

// The bits of flags: of a Disc, and of a track.
const (
	discFlag = 128
	dataFlag = 128
	preFlag  = 64
)

// Index is a place of a track.
type Index struct {
	Offset int
	Number int
}

// Track is one.
type Track struct {
	Offset int
	Number int
	Code   string
	Data   bool
	Pre    bool
	L      []Index
}

// Cue is a cue sheet.
type Cue struct {
	Catalog string
	Lead    int
	Disc    bool
	L       []Track
}

// ReadCue is the cue sheet that bytes are.
func ReadCue(b []byte) (Cue, api.Errno) {
	r := &reader{rest: b}
	var c Cue
	c.Catalog = r.padded(catalogSize)
	c.Lead = r.long()
	c.Disc = r.flags(discFlag) != 0
	r.noughts(cueGap)
	c.L = list(r, r.one, r.track)
	if e := first(r.end, c.check); e != api.OK {
		return Cue{}, e
	}
	return c, api.OK
}

// track is the next one.
func (r *reader) track() (t Track) {
	t.Offset = r.long()
	t.Number = r.one()
	t.Code = r.padded(codeSize)
	flags := r.flags(dataFlag | preFlag)
	t.Data = flags&dataFlag != 0
	t.Pre = flags&preFlag != 0
	r.noughts(trackGap)
	t.L = list(r, r.one, r.index)
	return t
}

// index is the next one.
func (r *reader) index() (x Index) {
	x.Offset = r.long()
	x.Number = r.one()
	r.noughts(indexGap)
	return x
}

// Write is its bytes.
func (c Cue) Write() ([]byte, api.Errno) {
	if e := c.check(); e != api.OK {
		return nil, e
	}
	b := putPadded(nil, catalogSize, c.Catalog)
	b = put(b, longSize, c.Lead)
	b = put(b, byteSize, flag(c.Disc, discFlag))
	b = putPadded(b, cueGap, "")
	b = put(b, byteSize, len(c.L))
	for _, t := range c.L {
		b = t.put(b)
	}
	return b, api.OK
}

// put appends a track's bytes.
func (t Track) put(b []byte) []byte {
	b = put(b, longSize, t.Offset)
	b = put(b, byteSize, t.Number)
	b = putPadded(b, codeSize, t.Code)
	b = put(b, byteSize, flag(t.Data, dataFlag)|flag(t.Pre, preFlag))
	b = putPadded(b, trackGap, "")
	b = put(b, byteSize, len(t.L))
	for _, x := range t.L {
		b = put(b, longSize, x.Offset)
		b = put(b, byteSize, x.Number)
		b = putPadded(b, indexGap, "")
	}
	return b
}

// flag is a bit, if it is told, else 0.
func flag(is bool, bit int) int {
	if is {
		return bit
	}
	return 0
}

// check is why it may not be written.
func (c Cue) check() api.Errno {
	switch {
	case len(c.L) == 0:
		return api.ErrNone
	case !c.isInRange():
		return api.ErrRange
	case !c.isFormed():
		return api.ErrForm
	case c.isTwice():
		return api.ErrMany
	}
	return api.OK
}

// isInRange tells whether all numbers may be, and how many tracks and indexes there are.
func (c Cue) isInRange() bool {
	is := c.Lead >= 0 && len(c.L) <= maxTracks
tracks:
	for n, t := range c.L {
		least, most := 1, maxIndexes
		if n == len(c.L)-1 {
			least, most = 0, 0
		}
		if t.Offset < 0 || t.Number < 1 || t.Number > maxByte || len(t.L) < least || len(t.L) > most {
			is = false
			break tracks
		}
		for _, x := range t.L {
			if x.Offset < 0 || x.Number < 0 || x.Number > maxByte {
				is = false
				break tracks
			}
		}
	}
	return is
}

// isFormed tells whether Catalog and all Codes may be.
func (c Cue) isFormed() bool {
	for _, t := range c.L {
		if t.Code != "" && (len(t.Code) != codeSize || !isOf(t.Code, isOfCode)) {
			return false
		}
	}
	return len(c.Catalog) <= catalogSize && isOf(c.Catalog, isPrinted)
}

// isOfCode tells whether a letter may be one of a Code.
func isOfCode(letter rune) bool {
	return '0' <= letter && letter <= '9' || 'A' <= letter && letter <= 'Z'
}

// isTwice tells whether two tracks have one Number.
func (c Cue) isTwice() bool {
	told := map[int]struct{}{}
	for _, t := range c.L {
		if _, is := told[t.Number]; is {
			return true
		}
		told[t.Number] = struct{}{}
	}
	return false
}
