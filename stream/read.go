package stream

import (
	"bytes"

	"jetsam/api"
	"jetsam/blocks"
	"jetsam/digest"
	"jetsam/frame"
	"jetsam/info"
	"jetsam/tags"
)

// Read is the stream that bytes are.
func Read(b []byte) (Stream, api.Errno) {
	b, isMarked := bytes.CutPrefix(b, []byte(Marker))
	if !isMarked {
		return Stream{}, api.ErrSync
	}
	l, size, e := blocks.Read(b)
	if e != api.OK {
		return Stream{}, e
	}
	i, points, e := told(l)
	if e != api.OK {
		return Stream{}, e
	}
	s := Stream{Info: i, Blocks: l}
	if e := s.readFrames(b[size:]); e != api.OK {
		return Stream{}, e
	}
	if e := s.check(points); e != api.OK {
		return Stream{}, e
	}
	return s, api.OK
}

// told is the info of a stream's blocks, and the points of its Seek, if each of them is right by itself.
func told(l []blocks.Block) (i info.Info, points []blocks.Point, e api.Errno) {
	if e := blocks.Order(l...); e != api.OK {
		return info.Info{}, nil, e
	}
	i, e = info.Read(l[0].Data)
	if e != api.OK {
		return info.Info{}, nil, e
	}
	for _, k := range l {
		switch k.Type {
		case blocks.Comment:
			_, e = tags.ReadComments(k.Data)
		case blocks.Picture:
			_, e = tags.ReadPicture(k.Data)
		case blocks.Cue:
			_, e = tags.ReadCue(k.Data)
		case blocks.Seek:
			points, e = blocks.Points(k.Data)
		}
		if e != api.OK {
			return info.Info{}, nil, e
		}
	}
	return i, points, api.OK
}

// readFrames reads frames up to the end of bytes; with an error it leaves those ahead of it.
func (s *Stream) readFrames(b []byte) api.Errno {
	for samples := 0; len(b) > 0; {
		// The info tells all parameters, so that a header which tells others is wrong already here.
		f, size, e := frame.Read(b, s.Params)
		if e != api.OK {
			return e
		}
		if e := s.checkNext(f, samples); e != api.OK {
			return e
		}
		s.Frames = append(s.Frames, f)
		s.Raw = append(s.Raw, bytes.Clone(b[:size]))
		samples += f.Block
		b = b[size:]
	}
	return api.OK
}

// checkNext is what is wrong with a frame behind those there are, which have so many samples.
func (s *Stream) checkNext(f frame.Frame, samples int) api.Errno {
	many := len(s.Frames)
	first, last := f, f
	if many > 0 {
		first, last = s.Frames[0], s.Frames[many-1]
	}
	number := many
	if f.Variable {
		number = samples
	}
	switch {
	case f.Variable != first.Variable:
		return api.ErrParam
	case f.Number != number:
		return api.ErrOrder
	case !f.Variable && (last.Block != first.Block || f.Block > first.Block):
		return api.ErrParam
	}
	return api.OK
}

// check is what is wrong with a stream whose blocks, and frames, are right by themselves.
func (s *Stream) check(points []blocks.Point) api.Errno {
	var pieces []info.Piece
	places := map[int]Place{}
	for p := range s.Places() {
		pieces = append(pieces, info.Piece{Block: p.Block, Bytes: p.Bytes})
		places[p.Sample] = p
	}
	// Of no frames this is ErrNone.
	if e := s.Covers(pieces...); e != api.OK {
		return e
	}
	if s.Known() && s.Sum != s.sum() {
		return api.ErrMD5
	}
	return blocks.Seekable(points, func(sample int) (offset, count int, is bool) {
		p, is := places[sample]
		return p.Offset, p.Block, is
	})
}

// sum is the digest of all samples. They are taken frame by frame: those of all at once need memory anew.
func (s *Stream) sum() [digest.Size]byte {
	d := digest.New()
	for _, f := range s.Frames {
		// Frames that were read have samples of the info's Depth alone.
		b, _ := digest.Bytes(s.Depth, f.Samples...)
		d.Add(b)
	}
	return d.Sum()
}
