package tags_test

import (
	"bytes"
	"math"
	"math/rand"
	"strings"
	"testing"

	"jetsam/api"
	"jetsam/tags"
)

// P13.1 and P13.2, of pictures.

// zeros is so many bytes 0.
func zeros(n int) string { return strings.Repeat("\x00", n) }

func TestPicturesByHand(t *testing.T) {
	for _, k := range []struct {
		p tags.Picture
		s string
	}{
		{tags.Picture{}, zeros(32)},
		{tags.Picture{Kind: 20}, "\x00\x00\x00\x14" + zeros(28)},
		{tags.Picture{Mime: "-->", Data: []byte("http")}, zeros(7) + "\x03-->" + zeros(20) + "\x00\x00\x00\x04http"},
		{tags.Picture{Kind: 3, Mime: "image/png", Text: "né", Width: 1, Height: 0x10203, Bits: 24, Colors: 256, Data: []byte{0, 255}},
			"\x00\x00\x00\x03\x00\x00\x00\x09image/png\x00\x00\x00\x03né\x00\x00\x00\x01\x00\x01\x02\x03\x00\x00\x00\x18\x00\x00\x01\x00\x00\x00\x00\x02\x00\xff"},
	} {
		if b := pictures.both(t, k.p); string(b) != k.s {
			t.Errorf("%v: %q", k.p, b)
		}
		if p := pictures.reads(t, api.OK, []byte(k.s)); !samePicture(p, k.p) {
			t.Errorf("%q: %v", k.s, p)
		}
	}
}

func TestKindsOfPictures(t *testing.T) {
	b := pictures.both(t, tags.Picture{Mime: "a", Data: []byte{1}})
	for kind := -40; kind < 300; kind++ {
		want := api.ErrRange
		if kind >= 0 && kind <= 20 {
			want = api.OK
		}
		pictures.writes(t, want, tags.Picture{Kind: kind, Mime: "a", Data: []byte{1}})
		if kind >= 0 && kind < 256 {
			pictures.reads(t, want, changed(b, 3, byte(kind)))
		}
	}
	for _, kind := range append([]int{1 << 8, 1 << 31, 1<<32 - 1, 1 << 32, 1<<32 + 1, math.MaxInt}, farNumbers...) {
		pictures.writes(t, api.ErrRange, tags.Picture{Kind: kind})
	}
	for n := range 3 {
		pictures.reads(t, api.ErrRange, changed(b, n, 1))
		pictures.reads(t, api.ErrRange, changed(b, n, 255))
	}
}

func TestNumbersOfPictures(t *testing.T) {
	for name, set := range map[string]func(p *tags.Picture, n int){
		"width":  func(p *tags.Picture, n int) { p.Width = n },
		"height": func(p *tags.Picture, n int) { p.Height = n },
		"bits":   func(p *tags.Picture, n int) { p.Bits = n },
		"colors": func(p *tags.Picture, n int) { p.Colors = n },
	} {
		p := tags.Picture{Kind: 3, Mime: "m", Text: "t", Width: 5, Height: 6, Bits: 7, Colors: 8, Data: []byte("d")}
		for _, n := range []int{0, 1, 255, 256, 65536, 1 << 24, 1<<31 - 1, 1 << 31, 1<<32 - 2, 1<<32 - 1} {
			set(&p, n)
			pictures.both(t, p)
		}
		for _, n := range append([]int{1 << 32, 1<<32 + 1, 1 << 40, 1 << 62, math.MaxInt}, farNumbers...) {
			set(&p, n)
			if b, e := p.Write(); len(b) != 0 || e != api.ErrRange {
				t.Error(name, n, int(e))
			}
			pictures.writes(t, api.ErrRange, p)
		}
	}
	// Each of them comes out where it was told.
	p := tags.Picture{Kind: 1, Width: 2, Height: 3, Bits: 4, Colors: 5}
	if b := pictures.both(t, p); b[3] != 1 || b[15] != 2 || b[19] != 3 || b[23] != 4 || b[27] != 5 {
		t.Error(b)
	}
}

func TestMimesOfEveryByte(t *testing.T) {
	for x := range 256 {
		letter := string([]byte{byte(x)})
		want := api.OK
		if x < 32 || x > 126 {
			want = api.ErrForm
		}
		for _, s := range []string{letter, "a" + letter, letter + "a", "ab" + letter + "cd"} {
			pictures.writes(t, want, tags.Picture{Mime: s})
			pictures.reads(t, want, []byte(zeros(7)+string([]byte{byte(len(s))})+s+zeros(24)))
		}
	}
	pictures.both(t, tags.Picture{Mime: ""})
	pictures.both(t, tags.Picture{Mime: " ~"})
	pictures.both(t, tags.Picture{Mime: strings.Repeat("m", 70000)})
	for _, s := range []string{"é", "\u0100", "\ufffd", "\xff", "a\xc3", "\U0001f3b5", "image/png\x00", "\x1f", "\x7f"} {
		pictures.writes(t, api.ErrForm, tags.Picture{Mime: s})
	}
}

func TestTextsOfPictures(t *testing.T) {
	for _, s := range notTexts {
		pictures.writes(t, api.ErrForm, tags.Picture{Text: s})
		pictures.reads(t, api.ErrForm, []byte(zeros(11)+string([]byte{byte(len(s))})+s+zeros(20)))
	}
	for _, s := range append(texts, "=", "a=b", strings.Repeat("t", 70000)) {
		pictures.both(t, tags.Picture{Text: s})
	}
}

func TestPicturesOfTooManyBytes(t *testing.T) {
	const most = 1<<24 - 1 - 32
	data := bytes.Repeat([]byte{1, 2, 255}, most/3+2)
	long := strings.Repeat("x", most+1)
	pictures.both(t, tags.Picture{Data: data[:most]})
	pictures.writes(t, api.ErrFull, tags.Picture{Data: data[:most+1]})
	pictures.both(t, tags.Picture{Text: long[:most]})
	pictures.writes(t, api.ErrFull, tags.Picture{Text: long})
	pictures.both(t, tags.Picture{Mime: long[:most]})
	pictures.writes(t, api.ErrFull, tags.Picture{Mime: long})
	pictures.both(t, tags.Picture{Mime: "ab", Text: "c", Data: data[:most-3]})
	pictures.writes(t, api.ErrFull, tags.Picture{Mime: "ab", Text: "c", Data: data[:most-2]})
	pictures.writes(t, api.ErrFull, tags.Picture{Mime: long, Text: long, Data: data})
}

func TestReadsPicturesOfTooManyBytes(t *testing.T) {
	b := make([]byte, 1<<24+1)
	copy(b[28:], "\x00\xff\xff\xe0")
	pictures.reads(t, api.ErrFull, b[:1<<24])
	pictures.reads(t, api.ErrForm, b)
	pictures.reads(t, api.ErrEnd, b[:1<<24-1])
	pictures.reads(t, api.ErrRange, changed(b[:1<<24], 3, 21))
	pictures.reads(t, api.OK, changed(b[:1<<24-1], 31, 0xdf))
}

func TestSeveralReasonsOfPictures(t *testing.T) {
	data := make([]byte, 1<<24)
	for n := range 1 << 7 {
		want := api.OK
		p := tags.Picture{Kind: 3}
		is := func(k int, e api.Errno) bool {
			told := n>>k&1 == 1
			if told && want == api.OK {
				want = e
			}
			return told
		}
		if is(0, api.ErrForm) {
			p.Mime = "\x1f"
		}
		if is(1, api.ErrForm) {
			p.Text = "\xff"
		}
		if is(2, api.ErrRange) {
			p.Kind = 21
		}
		if is(3, api.ErrRange) {
			p.Width = -1
		}
		if is(4, api.ErrRange) {
			p.Colors = 1 << 32
		}
		if is(5, api.ErrRange) {
			p.Height, p.Bits = 1<<32, -1
		}
		if is(6, api.ErrFull) {
			p.Data = data
		}
		if b, e := p.Write(); len(b) != 0 && e != api.OK || e != want {
			t.Errorf("%07b: error %d, not %d", n, int(e), int(want))
		}
	}
	// Of what is read, the end, and what is behind it, come first.
	b := []byte("\x00\x00\x00\x15\x00\x00\x00\x01\x1f\x00\x00\x00\x01\xff" + zeros(20))
	pictures.ends(t, b)
	pictures.reads(t, api.ErrForm, b)
	pictures.reads(t, api.ErrForm, changed(b, 8, 'a'))
	pictures.reads(t, api.ErrForm, changed(b, 13, 'a'))
	pictures.reads(t, api.ErrRange, changed(changed(b, 8, 'a'), 13, 'a'))
	pictures.reads(t, api.ErrForm, append(changed(changed(b, 8, 'a'), 13, 'a'), 0))
}

func TestReadsPicturesThatEnd(t *testing.T) {
	pictures.reads(t, api.ErrEnd, nil)
	for _, p := range []tags.Picture{{}, {Mime: "image/png", Text: "a text", Data: []byte("data")}, {Kind: 20, Text: "é", Width: 1<<32 - 1}, {Data: make([]byte, 300)}} {
		b := pictures.both(t, p)
		pictures.ends(t, b)
		for _, behind := range []string{"\x00", "a", "\xff", zeros(4), string(b)} {
			pictures.reads(t, api.ErrForm, append(bytes.Clone(b), behind...))
		}
	}
}

func TestNumbersOfPicturesThatAreTooGreat(t *testing.T) {
	b := pictures.both(t, tags.Picture{Mime: "a", Text: "b", Data: []byte("c")})
	for _, at := range []int{4, 9, 30} {
		for _, n := range []string{"\x00\x00\x00\x20", "\x7f\xff\xff\xff", "\x80\x00\x00\x00", "\xff\xff\xff\xff"} {
			k := bytes.Clone(b)
			copy(k[at:], n)
			pictures.reads(t, api.ErrEnd, k)
		}
	}
	// Data of one byte more, or less.
	pictures.reads(t, api.ErrEnd, changed(b, len(b)-2, 2))
	pictures.reads(t, api.ErrForm, changed(b, len(b)-2, 0))
}

func TestReadsAnyPictures(t *testing.T) {
	rng := rand.New(rand.NewSource(4))
	told := map[api.Errno]int{}
	for range 60000 {
		b, _ := writtenPicture(randomPicture(rng))
		for range rng.Intn(3) {
			b[rng.Intn(len(b))] = byte(some(rng, 0, 1, 2, 20, 21, 31, 'a', 127, 255))
		}
		if rng.Intn(6) == 0 {
			b = b[:rng.Intn(len(b)+1)]
		}
		_, want := readPicture(b)
		pictures.reads(t, want, b)
		told[want]++
	}
	for _, e := range []api.Errno{api.OK, api.ErrEnd, api.ErrForm, api.ErrRange} {
		if told[e] < 1000 {
			t.Error(told)
		}
	}
}

func TestWritesAnyPictures(t *testing.T) {
	rng := rand.New(rand.NewSource(5))
	told := map[api.Errno]int{}
	for range 60000 {
		p := randomPicture(rng)
		for range rng.Intn(3) {
			n := some(rng, -1, 0, 1<<32-1, 1<<32)
			switch rng.Intn(8) {
			case 0:
				p.Kind = n
			case 1:
				p.Width = n
			case 2:
				p.Height = n
			case 3:
				p.Bits = n
			case 4:
				p.Colors = n
			case 5:
				p.Mime += some(rng, "\x1f", "\x7f", "é", "\xff", " ~")
			case 6:
				p.Text += some(rng, append(notTexts, texts...)...)
			}
		}
		_, want := writtenPicture(p)
		pictures.writes(t, want, p)
		told[want]++
	}
	for _, e := range []api.Errno{api.OK, api.ErrForm, api.ErrRange} {
		if told[e] < 1000 {
			t.Error(told)
		}
	}
}

func TestReadPicturesAreTheCallers(t *testing.T) {
	b := []byte("\x00\x00\x00\x03\x00\x00\x00\x01m\x00\x00\x00\x01t" + zeros(16) + "\x00\x00\x00\x03abcbehind")
	b = b[:len(b)-len("behind")]
	p, e := tags.ReadPicture(b)
	if e != api.OK || string(p.Data) != "abc" {
		t.Fatal(p, int(e))
	}
	// What is written over Data, or behind them, is not in the bytes, nor the other way round.
	p.Data[0] = 'x'
	_ = append(p.Data, "yyyyyy"...)
	if string(b[len(b)-3 : cap(b)][:9]) != "abcbehind" {
		t.Errorf("%q", b[:cap(b)])
	}
	clear(b)
	if string(p.Data) != "xbc" || p.Mime != "m" || p.Text != "t" {
		t.Error(p)
	}
	data := append(make([]byte, 0, 100), "abc"...)
	w, _ := tags.Picture{Data: data}.Write()
	clear(data)
	if !bytes.HasSuffix(w, []byte("\x03abc")) {
		t.Errorf("%q", w)
	}
	copy(data, "abc")
	for n := range w {
		w[n] = 7
	}
	if string(data) != "abc" || string(data[:10]) != "abc"+zeros(7) {
		t.Errorf("%q", data[:10])
	}
}

// randomPicture is one that may be.
func randomPicture(rng *rand.Rand) tags.Picture {
	number := func() int { return some(rng, 0, 1, 1<<32-1, rng.Intn(1<<32), rng.Intn(1000)) }
	p := tags.Picture{Kind: rng.Intn(21), Width: number(), Height: number(), Bits: number(), Colors: number()}
	p.Mime = randomText(rng, rng.Intn(4), "a/ ~=")
	p.Text = randomText(rng, rng.Intn(4), "té\x00\U0001f3b5")
	p.Data = make([]byte, rng.Intn(5))
	rng.Read(p.Data)
	return p
}
