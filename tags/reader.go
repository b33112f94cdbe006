package tags

import (
	"bytes"
	"strings"

	"jetsam/api"
)

// reader takes bytes, one behind the other. What is wrong with them is remembered, and told at their end: that they ran
// out counts ahead of all else, wherever it stands.
type reader struct {
	rest    []byte
	isShort bool // they ran out
	isOff   bool // noughts, or flags, were others than may be
}

// end is what is wrong with how bytes are laid, once all are taken.
func (r *reader) end() api.Errno {
	switch {
	case r.isShort:
		return api.ErrEnd
	case r.isOff || len(r.rest) > 0:
		return api.ErrForm
	}
	return api.OK
}

// take is so many bytes. They are those that the reader was given, not a copy.
func (r *reader) take(many int) []byte {
	if many > len(r.rest) {
		r.isShort = true
		return nil
	}
	b := r.rest[:many]
	r.rest = r.rest[many:]
	return b
}

// number is what so many bytes tell, the highest one first. One of eight that is too great for an int comes out below 0.
func (r *reader) number(many int) (n int) {
	for _, x := range r.take(many) {
		n = n<<8 | int(x)
	}
	return n
}

// one, word and long are numbers, the highest byte first.
func (r *reader) one() int  { return r.number(byteSize) }
func (r *reader) word() int { return r.number(wordSize) }
func (r *reader) long() int { return r.number(longSize) }

// low is a number of four bytes, the lowest one first.
func (r *reader) low() (n int) {
	for k, x := range r.take(wordSize) {
		n |= int(x) << (8 * k)
	}
	return n
}

// sized is as many bytes as the number ahead of them tells.
func (r *reader) sized(many func() int) []byte { return r.take(many()) }

// text is as many bytes, as a text of its own.
func (r *reader) text(many func() int) string { return string(r.sized(many)) }

// padded is the text of so many bytes, without the noughts behind it.
func (r *reader) padded(many int) string {
	return strings.TrimRight(string(r.take(many)), nought)
}

// noughts takes bytes that have to be 0.
func (r *reader) noughts(many int) {
	if len(bytes.Trim(r.take(many), nought)) > 0 {
		r.isOff = true
	}
}

// flags is a byte that may have these bits alone.
func (r *reader) flags(may int) int {
	n := r.one()
	if n&^may != 0 {
		r.isOff = true
	}
	return n
}

// list is as many rows as the number ahead of them tells.
func list[T any](r *reader, many func() int, row func() T) []T {
	var l []T
rows:
	for range many() {
		x := row()
		if r.isShort {
			// The number may tell of far more rows than there are bytes.
			break rows
		}
		l = append(l, x)
	}
	return l
}
