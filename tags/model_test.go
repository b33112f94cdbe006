package tags_test

import (
	"bytes"
	"encoding/binary"
	"fmt"
	"math/rand"
	"reflect"
	"regexp"
	"slices"
	"strings"
	"testing"

	"jetsam/api"
	"jetsam/tags"
)

// The tests hold the package against numbers, and rows of a cue sheet, that the library lays out in bytes and takes out of
// them, and against texts told by expressions.

// kind is one of the three things, with what is asked of it, and what that has to answer.
type kind[T any] struct {
	write     func(T) ([]byte, api.Errno)
	writtenOf func(T) ([]byte, api.Errno)
	read      func([]byte) (T, api.Errno)
	readOf    func([]byte) (T, api.Errno)
	same      func(a, b T) bool
	clone     func(T) T
}

var (
	comments = kind[tags.Comments]{tags.Comments.Write, writtenComments, tags.ReadComments, readComments, sameComments, cloneComments}
	pictures = kind[tags.Picture]{tags.Picture.Write, writtenPicture, tags.ReadPicture, readPicture, samePicture, clonePicture}
	cues     = kind[tags.Cue]{tags.Cue.Write, writtenCue, tags.ReadCue, readCue, sameCue, cloneCue}
)

// writes tells that Write answers what it has to.
func (k kind[T]) writes(t *testing.T, want api.Errno, x T) []byte {
	t.Helper()
	was := k.clone(x)
	b, e := k.write(x)
	wantB, f := k.writtenOf(x)
	if !bytes.Equal(b, wantB) || e != want || f != want {
		t.Fatalf("%s: %.80x, error %d, not %.80x, error %d", brief(x), b, int(e), wantB, int(want))
	}
	if e != api.OK && b != nil && len(b) != 0 {
		t.Fatalf("error %d, and bytes", int(e))
	}
	if !k.same(x, was) {
		t.Fatal("what was handed in is written into")
	}
	return b
}

// reads tells that Read answers what it has to.
func (k kind[T]) reads(t *testing.T, want api.Errno, b []byte) T {
	t.Helper()
	b = append(bytes.Clone(b), 0xa5, 0x5a, 0xff)
	was := bytes.Clone(b)
	x, e := k.read(b[:len(b)-3])
	wantX, f := k.readOf(b[:len(b)-3])
	if !k.same(x, wantX) || e != want || f != want {
		t.Fatalf("%.80x: %s, error %d, not %s, error %d", b, brief(x), int(e), brief(wantX), int(want))
	}
	if !bytes.Equal(b, was) {
		t.Fatal("what was handed in is written into")
	}
	return x
}

// both tells that what is written is read again, and the other way round.
func (k kind[T]) both(t *testing.T, x T) []byte {
	t.Helper()
	b := k.writes(t, api.OK, x)
	y := k.reads(t, api.OK, b)
	if !k.same(x, y) {
		t.Fatalf("%s: %s", brief(x), brief(y))
	}
	if c := k.writes(t, api.OK, y); !bytes.Equal(b, c) {
		t.Fatalf("%.80x: %.80x", b, c)
	}
	return b
}

// ends tells that bytes that end anywhere within are ErrEnd.
func (k kind[T]) ends(t *testing.T, b []byte) {
	t.Helper()
	for n := range b {
		k.reads(t, api.ErrEnd, b[:n])
	}
}

// brief is the beginning of what a thing is as text.
func brief(x any) string { return fmt.Sprintf("%.300s", fmt.Sprintf("%+v", x)) }

// changed is bytes, one of which is another.
func changed(b []byte, n int, x byte) []byte {
	b = bytes.Clone(b)
	b[n] = x
	return b
}

// isUTF8 tells whether a text has no letter that stands for bytes that are none.
func isUTF8(s string) bool {
	for n, letter := range s {
		if letter == '\ufffd' && !strings.HasPrefix(s[n:], "\ufffd") {
			return false
		}
	}
	return true
}

var (
	commentForm = regexp.MustCompile(`^[ -<>-}]+=`)
	printedForm = regexp.MustCompile(`^[ -~]*$`)
	codeForm    = regexp.MustCompile(`^([0-9A-Z]{12})?$`)
)

// few is bytes, if there are not too many of them.
func few(b []byte) ([]byte, api.Errno) {
	if len(b) >= 1<<24 {
		return nil, api.ErrFull
	}
	return b, api.OK
}

// writtenComments is what Write of comments has to answer.
func writtenComments(c tags.Comments) ([]byte, api.Errno) {
	b := binary.LittleEndian.AppendUint32(nil, uint32(len(c.Vendor)))
	b = append(b, c.Vendor...)
	b = binary.LittleEndian.AppendUint32(b, uint32(len(c.L)))
	isRight := isUTF8(c.Vendor)
	for _, s := range c.L {
		isRight = isRight && isUTF8(s) && commentForm.MatchString(s)
		b = binary.LittleEndian.AppendUint32(b, uint32(len(s)))
		b = append(b, s...)
	}
	if !isRight {
		return nil, api.ErrForm
	}
	return few(b)
}

// taker takes things out of bytes; once they have run out, the rest is nothing.
type taker struct {
	*bytes.Buffer
	order binary.ByteOrder
	isEnd bool
}

func (k *taker) fill(x any) {
	k.isEnd = k.isEnd || binary.Read(k.Buffer, k.order, x) != nil
}

func (k *taker) number() (n uint32) {
	k.fill(&n)
	return n
}

func (k *taker) text() string {
	n := int(k.number())
	s := string(k.Next(n))
	k.isEnd = k.isEnd || len(s) < n
	return s
}

// laid is what is wrong with bytes of which all were taken that there have to be.
func (k *taker) laid(isRight bool) api.Errno {
	switch {
	case k.isEnd:
		return api.ErrEnd
	case k.Len() > 0 || !isRight:
		return api.ErrForm
	}
	return api.OK
}

// readComments is what ReadComments has to answer.
func readComments(b []byte) (c tags.Comments, e api.Errno) {
	k := taker{bytes.NewBuffer(b), binary.LittleEndian, false}
	c.Vendor = k.text()
	for n := k.number(); n > 0 && !k.isEnd; n-- {
		c.L = append(c.L, k.text())
	}
	if e = k.laid(true); e == api.OK {
		_, e = writtenComments(c)
	}
	if e != api.OK {
		c = tags.Comments{}
	}
	return c, e
}

func sameComments(a, b tags.Comments) bool { return a.Vendor == b.Vendor && slices.Equal(a.L, b.L) }

func cloneComments(c tags.Comments) tags.Comments {
	c.L = slices.Clone(c.L)
	return c
}

// writtenPicture is what Write of a picture has to answer.
func writtenPicture(p tags.Picture) ([]byte, api.Errno) {
	if !isUTF8(p.Text) || !printedForm.MatchString(p.Mime) {
		return nil, api.ErrForm
	}
	var b []byte
	put := func(n int) { b = binary.BigEndian.AppendUint32(b, uint32(n)) }
	put(p.Kind)
	put(len(p.Mime))
	b = append(b, p.Mime...)
	put(len(p.Text))
	b = append(b, p.Text...)
	for _, n := range []int{p.Width, p.Height, p.Bits, p.Colors} {
		put(n)
	}
	put(len(p.Data))
	b = append(b, p.Data...)
	for _, n := range []int{p.Kind, p.Width, p.Height, p.Bits, p.Colors} {
		if int(uint32(n)) != n || p.Kind > 20 {
			return nil, api.ErrRange
		}
	}
	return few(b)
}

// readPicture is what ReadPicture has to answer.
func readPicture(b []byte) (p tags.Picture, e api.Errno) {
	k := taker{bytes.NewBuffer(b), binary.BigEndian, false}
	p.Kind = int(k.number())
	p.Mime = k.text()
	p.Text = k.text()
	for _, n := range []*int{&p.Width, &p.Height, &p.Bits, &p.Colors} {
		*n = int(k.number())
	}
	p.Data = []byte(k.text())
	if e = k.laid(true); e == api.OK {
		_, e = writtenPicture(p)
	}
	if e != api.OK {
		p = tags.Picture{}
	}
	return p, e
}

func samePicture(a, b tags.Picture) bool {
	isSame := bytes.Equal(a.Data, b.Data)
	a.Data, b.Data = nil, nil
	return isSame && reflect.DeepEqual(a, b)
}

func clonePicture(p tags.Picture) tags.Picture {
	p.Data = bytes.Clone(p.Data)
	return p
}

// The rows of a cue sheet, as they lie.
type (
	cueRow struct {
		Catalog [128]byte
		Lead    int64
		Flags   byte
		Gap     [258]byte
		Many    byte
	}
	trackRow struct {
		Offset int64
		Number byte
		Code   [12]byte
		Flags  byte
		Gap    [13]byte
		Many   byte
	}
	indexRow struct {
		Offset int64
		Number byte
		Gap    [3]byte
	}
)

// bit is a bit of flags, or none.
func bit(is bool, x byte) byte {
	if !is {
		x = 0
	}
	return x
}

// wrongCue is why a cue sheet may not be written.
func wrongCue(c tags.Cue) api.Errno {
	if len(c.L) == 0 {
		return api.ErrNone
	}
	// Of each number: what it may be at least, it, and what it may be at most.
	far := [][3]int{{0, c.Lead, c.Lead}, {1, len(c.L), 100}}
	isRight := len(c.Catalog) <= 128 && printedForm.MatchString(c.Catalog)
	var numbers []int
	for n, t := range c.L {
		far = append(far, [3]int{0, t.Offset, t.Offset}, [3]int{1, t.Number, 255})
		if n < len(c.L)-1 {
			far = append(far, [3]int{1, len(t.L), 100})
		} else {
			far = append(far, [3]int{0, len(t.L), 0})
		}
		for _, x := range t.L {
			far = append(far, [3]int{0, x.Offset, x.Offset}, [3]int{0, x.Number, 255})
		}
		isRight = isRight && codeForm.MatchString(t.Code)
		numbers = append(numbers, t.Number)
	}
	slices.Sort(numbers)
	switch {
	case slices.ContainsFunc(far, func(l [3]int) bool { return !slices.IsSorted(l[:]) }):
		return api.ErrRange
	case !isRight:
		return api.ErrForm
	case len(slices.Compact(numbers)) < len(c.L):
		return api.ErrMany
	}
	return api.OK
}

// bytesOfCue is a cue sheet's bytes, whether it may be or not.
func bytesOfCue(c tags.Cue) []byte {
	var b bytes.Buffer
	add := func(x any) { _ = binary.Write(&b, binary.BigEndian, x) }
	head := cueRow{Lead: int64(c.Lead), Flags: bit(c.Disc, 128), Many: byte(len(c.L))}
	copy(head.Catalog[:], c.Catalog)
	add(head)
	for _, t := range c.L {
		row := trackRow{Offset: int64(t.Offset), Number: byte(t.Number), Flags: bit(t.Data, 128) + bit(t.Pre, 64), Many: byte(len(t.L))}
		copy(row.Code[:], t.Code)
		add(row)
		for _, x := range t.L {
			add(indexRow{Offset: int64(x.Offset), Number: byte(x.Number)})
		}
	}
	return b.Bytes()
}

// writtenCue is what Write of a cue sheet has to answer.
func writtenCue(c tags.Cue) ([]byte, api.Errno) {
	if e := wrongCue(c); e != api.OK {
		return nil, e
	}
	return bytesOfCue(c), api.OK
}

// short is bytes as text, up to the last one that is not 0.
func short(b []byte) string {
	for len(b) > 0 && b[len(b)-1] == 0 {
		b = b[:len(b)-1]
	}
	return string(b)
}

// readCue is what ReadCue has to answer.
func readCue(b []byte) (c tags.Cue, e api.Errno) {
	k := taker{bytes.NewBuffer(b), binary.BigEndian, false}
	var head cueRow
	k.fill(&head)
	c = tags.Cue{Catalog: short(head.Catalog[:]), Lead: int(head.Lead), Disc: head.Flags == 128}
	isRight := head.Flags%128 == 0 && head.Gap == [258]byte{}
	for range head.Many {
		var row trackRow
		k.fill(&row)
		t := tags.Track{Offset: int(row.Offset), Number: int(row.Number), Code: short(row.Code[:]), Data: row.Flags >= 128, Pre: row.Flags/64%2 == 1}
		isRight = isRight && row.Flags%64 == 0 && row.Gap == [13]byte{}
		for range row.Many {
			var x indexRow
			k.fill(&x)
			t.L = append(t.L, tags.Index{Offset: int(x.Offset), Number: int(x.Number)})
			isRight = isRight && x.Gap == [3]byte{}
		}
		c.L = append(c.L, t)
	}
	if e = k.laid(isRight); e == api.OK {
		e = wrongCue(c)
	}
	if e != api.OK {
		c = tags.Cue{}
	}
	return c, e
}

func sameTrack(a, b tags.Track) bool {
	isSame := slices.Equal(a.L, b.L)
	a.L, b.L = nil, nil
	return isSame && reflect.DeepEqual(a, b)
}

func sameCue(a, b tags.Cue) bool {
	isSame := slices.EqualFunc(a.L, b.L, sameTrack)
	a.L, b.L = nil, nil
	return isSame && reflect.DeepEqual(a, b)
}

func cloneCue(c tags.Cue) tags.Cue {
	c.L = slices.Clone(c.L)
	for n := range c.L {
		c.L[n].L = slices.Clone(c.L[n].L)
	}
	return c
}

// some is one of those given.
func some[T any](rng *rand.Rand, l ...T) T { return l[rng.Intn(len(l))] }

// randomText is a text of so many letters out of these.
func randomText(rng *rand.Rand, many int, letters string) string {
	l := []rune(letters)
	var s strings.Builder
	for range many {
		s.WriteRune(l[rng.Intn(len(l))])
	}
	return s.String()
}
