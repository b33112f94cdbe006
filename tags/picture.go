package tags

import (
	"bytes"

	"jetsam/api"
)

// maxKind is the greatest Kind.
const maxKind = 20

// Picture is one.
type Picture struct {
	Kind   int
	Mime   string
	Text   string
	Width  int
	Height int
	Bits   int
	Colors int
	Data   []byte
}

// ReadPicture is the picture that bytes are.
func ReadPicture(b []byte) (Picture, api.Errno) {
	r := &reader{rest: b}
	var p Picture
	p.Kind = r.word()
	p.Mime = r.text(r.word)
	p.Text = r.text(r.word)
	p.Width = r.word()
	p.Height = r.word()
	p.Bits = r.word()
	p.Colors = r.word()
	p.Data = r.sized(r.word)
	if e := first(r.end, p.check); e != api.OK {
		return Picture{}, e
	}
	p.Data = bytes.Clone(p.Data)
	return p, api.OK
}

// Write is its bytes.
func (p Picture) Write() ([]byte, api.Errno) {
	if e := p.check(); e != api.OK {
		return nil, e
	}
	b := make([]byte, 0, p.size())
	b = put(b, wordSize, p.Kind)
	b = put(b, wordSize, len(p.Mime))
	b = append(b, p.Mime...)
	b = put(b, wordSize, len(p.Text))
	b = append(b, p.Text...)
	b = put(b, wordSize, p.Width)
	b = put(b, wordSize, p.Height)
	b = put(b, wordSize, p.Bits)
	b = put(b, wordSize, p.Colors)
	b = put(b, wordSize, len(p.Data))
	return append(b, p.Data...), api.OK
}

// check is why it may not be written.
func (p Picture) check() api.Errno {
	switch {
	case !isText(p.Text) || !isOf(p.Mime, isPrinted):
		return api.ErrForm
	case p.Kind < 0 || p.Kind > maxKind:
		return api.ErrRange
	case !isWord(p.Width) || !isWord(p.Height) || !isWord(p.Bits) || !isWord(p.Colors):
		return api.ErrRange
	case p.size() > maxBytes:
		return api.ErrFull
	}
	return api.OK
}

// size is how many bytes it has: eight numbers, two texts, and Data.
func (p Picture) size() int {
	return 8*wordSize + len(p.Mime) + len(p.Text) + len(p.Data)
}
