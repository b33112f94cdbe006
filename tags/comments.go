package tags

import (
	"slices"
	"strings"

	"jetsam/api"
)

// mark stands between a comment's name and its value.
const mark = "="

// Comments is who wrote a stream, and what is told of it.
type Comments struct {
	Vendor string
	L      []string
}

// ReadComments is the comments that bytes are.
func ReadComments(b []byte) (Comments, api.Errno) {
	r := &reader{rest: b}
	var c Comments
	c.Vendor = r.text(r.low)
	c.L = list(r, r.low, r.comment)
	if e := first(r.end, c.check); e != api.OK {
		return Comments{}, e
	}
	return c, api.OK
}

// comment is the next one.
func (r *reader) comment() string { return r.text(r.low) }

// Write is their bytes.
func (c Comments) Write() ([]byte, api.Errno) {
	if e := c.check(); e != api.OK {
		return nil, e
	}
	b := make([]byte, 0, c.size())
	b = putLow(b, len(c.Vendor))
	b = append(b, c.Vendor...)
	b = putLow(b, len(c.L))
	for _, s := range c.L {
		b = putLow(b, len(s))
		b = append(b, s...)
	}
	return b, api.OK
}

// Get is the values of the comments of a name. What stands among them, and is no comment, has none.
func (c Comments) Get(name string) []string {
	name = small(name)
	var l []string
	for _, s := range c.L {
		if own, value, is := parts(s); is && small(own) == name {
			l = append(l, value)
		}
	}
	return l
}

// With is comments with others behind them.
func (c Comments) With(l ...string) Comments {
	return Comments{Vendor: c.Vendor, L: slices.Concat(c.L, l)}
}

// check is why they may not be written.
func (c Comments) check() api.Errno {
	switch {
	case !isText(c.Vendor) || slices.ContainsFunc(c.L, isNone):
		return api.ErrForm
	case c.size() > maxBytes:
		return api.ErrFull
	}
	return api.OK
}

// isNone tells whether it is no comment.
func isNone(s string) bool {
	_, _, is := parts(s)
	return !is
}

// size is how many bytes they have.
func (c Comments) size() int {
	n := wordSize + len(c.Vendor) + wordSize
	for _, s := range c.L {
		n += wordSize + len(s)
	}
	return n
}

// parts is a comment's name and value, and whether it is a comment.
func parts(s string) (name, value string, is bool) {
	name, value, is = strings.Cut(s, mark)
	return name, value, is && name != "" && isOf(name, isOfName) && isText(value)
}

// isOfName tells whether a letter may be one of a name; mark is none, since a name ends ahead of it.
func isOfName(letter rune) bool { return isPrinted(letter) && letter != lastLetter }

// small is a name in small letters. Of other alphabets no letter is the same as another.
func small(name string) string {
	return strings.Map(func(letter rune) rune {
		if 'A' <= letter && letter <= 'Z' {
			return letter - 'A' + 'a'
		}
		return letter
	}, name)
}
