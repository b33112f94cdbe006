package blocks

import "jetsam/api"

// How many bytes a point has, and each of its numbers; and how many points a block has at most.
const (
	sampleSize = 8
	offsetSize = 8
	countSize  = 2
	pointSize  = sampleSize + offsetSize + countSize
	maxPoints  = MaxData / pointSize
)

// maxCount is the greatest Count.
const maxCount = 1<<(8*countSize) - 1

// Point is where a frame begins.
type Point struct {
	Sample int
	Offset int
	Count  int
}

// Points is the points that bytes are.
func Points(b []byte) ([]Point, api.Errno) {
	if len(b)%pointSize != 0 {
		return nil, api.ErrForm
	}
	take := func(many int) int {
		n := number(b[:many])
		b = b[many:]
		// What is above 2^63 - 1 comes out below 0: as None, or as what no point may have.
		return int(n)
	}
	l := make([]Point, len(b)/pointSize)
	for n := range l {
		l[n].Sample = take(sampleSize)
		l[n].Offset = take(offsetSize)
		l[n].Count = take(countSize)
	}
	if e := inOrder(l); e != api.OK {
		return nil, e
	}
	return l, api.OK
}

// WritePoints is the bytes of points.
func WritePoints(l ...Point) ([]byte, api.Errno) {
	if e := inOrder(l); e != api.OK {
		return nil, e
	}
	if len(l) > maxPoints {
		return nil, api.ErrFull
	}
	b := make([]byte, 0, len(l)*pointSize)
	for _, p := range l {
		b = put(b, sampleSize, uint64(p.Sample))
		b = put(b, offsetSize, uint64(p.Offset))
		b = put(b, countSize, uint64(p.Count))
	}
	return b, api.OK
}

// Seekable is what is wrong with points, held against what is told of where frames begin.
func Seekable(l []Point, starts func(sample int) (offset, count int, is bool)) api.Errno {
	if starts == nil {
		return api.ErrNone
	}
	isRight := func(p Point) (is bool) {
		// What panics has told nothing.
		defer func() { _ = recover() }()
		offset, count, told := starts(p.Sample)
		return told && offset == p.Offset && count == p.Count
	}
	e := api.OK
rows:
	for _, p := range l {
		switch {
		case p.isKept():
			continue
		case !isRight(p):
			e = api.ErrForm
			break rows
		}
	}
	return e
}

// inOrder is what is wrong with points, one by one or one behind another.
func inOrder(l []Point) api.Errno {
	e := api.OK
rows:
	for n, p := range l {
		switch {
		case !p.mayBe():
			// Named ahead of all that may be wrong in other rows.
			e = api.ErrRange
			break rows
		case n > 0 && !p.follows(l[n-1]):
			e = api.ErrOrder
		}
	}
	return e
}

// mayBe tells whether it is a point at all.
func (p Point) mayBe() bool {
	return p.Sample >= None && p.Offset >= 0 && p.Count >= 0 && p.Count <= maxCount
}

// follows tells whether a point may stand right behind another.
func (p Point) follows(ahead Point) bool {
	return p.isKept() || !ahead.isKept() && p.Sample > ahead.Sample
}

// isKept tells whether it is but a place that is kept.
func (p Point) isKept() bool { return p.Sample == None }
