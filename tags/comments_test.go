package tags_test

import (
	"math"
	"math/rand"
	"slices"
	"strings"
	"testing"

	"jetsam/api"
	"jetsam/tags"
)

// P13.1 and P13.2, of comments.

// noted is comments of the Vendor "v".
func noted(l ...string) tags.Comments { return tags.Comments{Vendor: "v", L: l} }

func TestCommentsByHand(t *testing.T) {
	for _, k := range []struct {
		c tags.Comments
		s string
	}{
		{tags.Comments{Vendor: "x", L: []string{"A=b"}}, "\x01\x00\x00\x00x\x01\x00\x00\x00\x03\x00\x00\x00A=b"},
		{tags.Comments{}, "\x00\x00\x00\x00\x00\x00\x00\x00"},
		{tags.Comments{Vendor: "né"}, "\x03\x00\x00\x00né\x00\x00\x00\x00"},
		{tags.Comments{L: []string{"a=", "a==", " ="}}, "\x00\x00\x00\x00\x03\x00\x00\x00\x02\x00\x00\x00a=\x03\x00\x00\x00a==\x02\x00\x00\x00 ="},
		{tags.Comments{Vendor: strings.Repeat("v", 258)}, "\x02\x01\x00\x00" + strings.Repeat("v", 258) + "\x00\x00\x00\x00"},
	} {
		if b := comments.both(t, k.c); string(b) != k.s {
			t.Errorf("%v: %q", k.c, b)
		}
		if c := comments.reads(t, api.OK, []byte(k.s)); !sameComments(c, k.c) {
			t.Errorf("%q: %v", k.s, c)
		}
	}
}

func TestNumbersOfCommentsHaveFourBytes(t *testing.T) {
	for _, n := range []int{0, 1, 255, 256, 257, 65535, 65536, 65537, 1<<24 - 1 - 8} {
		b := comments.both(t, tags.Comments{Vendor: strings.Repeat("v", n)})
		if want := string([]byte{byte(n), byte(n / 256), byte(n / 65536), 0}); string(b[:4]) != want || len(b) != n+8 {
			t.Errorf("%d: %x", n, b[:4])
		}
	}
	for _, n := range []int{255, 256, 65536} {
		b := comments.both(t, noted("a="+strings.Repeat("b", n-2)))
		if want := string([]byte{byte(n), byte(n / 256), byte(n / 65536), 0}); string(b[9:13]) != want {
			t.Errorf("%d: %x", n, b[9:13])
		}
		b = comments.both(t, noted(slices.Repeat([]string{"a="}, n)...))
		if want := string([]byte{byte(n), byte(n / 256), byte(n / 65536), 0}); string(b[5:9]) != want {
			t.Errorf("%d: %x", n, b[5:9])
		}
	}
}

func TestNamesOfEveryByte(t *testing.T) {
	for x := range 256 {
		letter := string([]byte{byte(x)})
		for _, name := range []string{letter, "a" + letter, letter + "a", "ab" + letter + "cd"} {
			want := api.OK
			if x < 32 || x > 125 {
				want = api.ErrForm
			}
			if strings.HasPrefix(name, "=") {
				// The name ends ahead of the first one.
				want = api.ErrForm
			}
			for _, value := range []string{"", "b", "=", "é"} {
				comments.writes(t, want, noted(name+"="+value))
			}
			b := []byte("\x00\x00\x00\x00\x01\x00\x00\x00" + string([]byte{byte(len(name)) + 1, 0, 0, 0}) + name + "=")
			comments.reads(t, want, b)
		}
	}
	comments.both(t, noted(" =", "}=", " }=", strings.Repeat("~", 0)+"<>=", "\"=", "a=b=c", "a==", "a=\x00\x1f\x7e\x7f\n"))
}

// notComments is what is no comment.
var notComments = []string{"", "a", "abc def", "=", "=a", "==", "=a=b", "\x1f=", "a\x1f=b", "~=", "a~=", "\x7f=", "\x00=", "a\n=b", "é=", "a\u0301=b", "\u212a=b",
	"a=\xff", "a=b\x80", "a=\xc3", "a=\xc0\x80", "a=\xed\xa0\x80", "a=\xf4\x90\x80\x80", "\xff=", "a\xff=b", "a\xffb"}

// notTexts is what is no text.
var notTexts = []string{"\xff", "a\x80", "\xc3", "\xc3\x28", "\xe2\x82", "\xc0\x80", "\xe0\x80\x80", "\xed\xa0\x80", "\xed\xbf\xbf", "\xf4\x90\x80\x80", "\xf8\x88\x80\x80\x80", "né\xc3"}

// texts is what is one, at the edges of what UTF-8 has.
var texts = []string{"", "\x00", "\x7f", "\u0080", "\u07ff", "\u0800", "\ud7ff", "\ue000", "\ufffd", "\uffff", "\U00010000", "\U0010ffff", "né\n"}

func TestWhatIsNoCommentIsNotWritten(t *testing.T) {
	for _, s := range notComments {
		comments.writes(t, api.ErrForm, noted(s))
		comments.writes(t, api.ErrForm, noted("a=b", s))
		comments.writes(t, api.ErrForm, noted(s, "a=b"))
		b := "\x00\x00\x00\x00\x02\x00\x00\x00\x02\x00\x00\x00a=" + string([]byte{byte(len(s)), 0, 0, 0}) + s
		comments.reads(t, api.ErrForm, []byte(b))
		comments.ends(t, []byte(b))
	}
}

func TestTextsOfComments(t *testing.T) {
	for _, s := range notTexts {
		comments.writes(t, api.ErrForm, tags.Comments{Vendor: s})
		comments.writes(t, api.ErrForm, tags.Comments{Vendor: s, L: []string{"a=b"}})
		comments.writes(t, api.ErrForm, noted("a="+s))
		comments.reads(t, api.ErrForm, []byte(string([]byte{byte(len(s)), 0, 0, 0})+s+"\x00\x00\x00\x00"))
	}
	for _, s := range texts {
		comments.both(t, tags.Comments{Vendor: s, L: []string{"a=" + s, s[:0] + "b=" + s + "="}})
	}
}

func TestCommentsOfTooManyBytes(t *testing.T) {
	const most = 1<<24 - 1
	long := strings.Repeat("x", most)
	comments.both(t, tags.Comments{Vendor: long[:most-8]})
	comments.writes(t, api.ErrFull, tags.Comments{Vendor: long[:most-7]})
	comments.writes(t, api.ErrFull, tags.Comments{Vendor: long})
	comments.both(t, tags.Comments{L: []string{"a=" + long[:most-14]}})
	comments.writes(t, api.ErrFull, tags.Comments{L: []string{"a=" + long[:most-13]}})
	comments.both(t, tags.Comments{Vendor: "abc", L: []string{"a=b", "a=" + long[:most-24]}})
	comments.writes(t, api.ErrFull, tags.Comments{Vendor: "abcd", L: []string{"a=b", "a=" + long[:most-24]}})
	comments.writes(t, api.ErrFull, tags.Comments{Vendor: "abc", L: []string{"a=bc", "a=" + long[:most-24]}})
	// Of many: eight bytes, and six of each.
	many := slices.Repeat([]string{"a="}, (most-8)/6)
	comments.both(t, tags.Comments{Vendor: "v", L: many})
	comments.writes(t, api.ErrFull, tags.Comments{Vendor: "vw", L: many})
	comments.writes(t, api.ErrFull, tags.Comments{L: append(many, "b=")})
	// What may not be is told first.
	comments.writes(t, api.ErrForm, tags.Comments{Vendor: long + "\xff"})
	comments.writes(t, api.ErrForm, tags.Comments{Vendor: long, L: []string{"a"}})
	comments.writes(t, api.ErrForm, tags.Comments{L: []string{"a=" + long, ""}})
}

func TestReadsCommentsOfTooManyBytes(t *testing.T) {
	const size = 1 << 24
	b := make([]byte, size+1)
	copy(b, "\xf8\xff\xff\x00")
	comments.reads(t, api.ErrFull, b[:size])
	comments.reads(t, api.ErrForm, b)
	comments.reads(t, api.ErrEnd, b[:size-1])
	comments.reads(t, api.ErrForm, changed(b[:size], 4, 0xff))
	comments.reads(t, api.OK, changed(b[:size-1], 0, 0xf7))
}

func TestReadsCommentsThatEnd(t *testing.T) {
	comments.reads(t, api.ErrEnd, nil)
	for _, c := range []tags.Comments{{}, {Vendor: "abc"}, noted("a=b"), noted("a=", "b=c", "long name=long value", "d=é"), noted(slices.Repeat([]string{"a=b"}, 300)...)} {
		b := comments.both(t, c)
		comments.ends(t, b)
		for _, behind := range []string{"\x00", "\x00\x00\x00\x00", "a", "\xff", string(b)} {
			comments.reads(t, api.ErrForm, append(slices.Clone(b), behind...))
		}
	}
}

func TestNumbersOfCommentsThatAreTooGreat(t *testing.T) {
	for _, n := range []string{"\x01\x00\x00\x00", "\x00\x00\x00\x01", "\xff\xff\xff\x7f", "\x00\x00\x00\x80", "\xff\xff\xff\xff"} {
		comments.reads(t, api.ErrEnd, []byte(n))
		comments.reads(t, api.ErrEnd, []byte("\x00\x00\x00\x00"+n))
		comments.reads(t, api.ErrEnd, []byte("\x00\x00\x00\x00"+n+"\x00"))
		comments.reads(t, api.ErrEnd, []byte("\x00\x00\x00\x00\x02\x00\x00\x00\x02\x00\x00\x00a="+n))
	}
	// One number is wrong by one.
	b := []byte("\x01\x00\x00\x00v\x02\x00\x00\x00\x02\x00\x00\x00a=\x03\x00\x00\x00b=c")
	comments.reads(t, api.OK, b)
	comments.reads(t, api.ErrEnd, changed(b, 5, 3))
	comments.reads(t, api.ErrForm, changed(b, 5, 1))
	comments.reads(t, api.ErrForm, changed(b, 5, 0))
	comments.reads(t, api.ErrEnd, changed(b, 15, 4))
	comments.reads(t, api.ErrForm, changed(b, 15, 2))
	// The end is told ahead of what is wrong with those ahead of it.
	comments.reads(t, api.ErrEnd, changed(b, 4, 0xff)[:len(b)-1])
	comments.reads(t, api.ErrEnd, changed(b, 13, '~')[:len(b)-1])
}

func TestReadsAnyComments(t *testing.T) {
	rng := rand.New(rand.NewSource(1))
	told := map[api.Errno]int{}
	for range 60000 {
		b, _ := writtenComments(randomComments(rng))
		for range rng.Intn(3) {
			b[rng.Intn(len(b))] = byte(some(rng, 0, 1, 2, 3, '=', '~', 'a', 255))
		}
		if rng.Intn(6) == 0 {
			b = b[:rng.Intn(len(b)+1)]
		}
		_, want := readComments(b)
		comments.reads(t, want, b)
		told[want]++
	}
	if told[api.OK] < 1000 || told[api.ErrEnd] < 1000 || told[api.ErrForm] < 1000 {
		t.Error(told)
	}
}

func TestWritesAnyComments(t *testing.T) {
	rng := rand.New(rand.NewSource(2))
	told := map[api.Errno]int{}
	for range 60000 {
		c := randomComments(rng)
		switch rng.Intn(8) {
		case 0:
			c.L = append(c.L, some(rng, notComments...))
		case 1:
			c.Vendor += some(rng, notTexts...)
		case 2:
			c.L = slices.Insert(c.L, 0, randomText(rng, rng.Intn(4), "a=b~ \x1f}é"))
		}
		_, want := writtenComments(c)
		comments.writes(t, want, c)
		told[want]++
	}
	if told[api.OK] < 1000 || told[api.ErrForm] < 1000 {
		t.Error(told)
	}
}

func TestReadCommentsAreTheCallers(t *testing.T) {
	b := []byte("\x01\x00\x00\x00v\x02\x00\x00\x00\x02\x00\x00\x00a=\x03\x00\x00\x00b=c")
	c, _ := tags.ReadComments(b)
	clear(b)
	if !sameComments(c, noted("a=", "b=c")) {
		t.Error(c)
	}
	was := cloneComments(c)
	w, _ := c.Write()
	for n := range w {
		w[n] = 7
	}
	_ = append(c.L[:1], "x=y")
	if c.Vendor != was.Vendor || c.L[0] != was.L[0] {
		t.Error(c)
	}
}

// randomComments is comments that may be.
func randomComments(rng *rand.Rand) (c tags.Comments) {
	c.Vendor = randomText(rng, rng.Intn(5), "vé\x00\U0001f3b5")
	for range rng.Intn(5) {
		name := randomText(rng, 1+rng.Intn(4), "aBc }<>{Z")
		c.L = append(c.L, name+"="+randomText(rng, rng.Intn(5), "=bé\x00\x7f~\U0001f3b5"))
	}
	return c
}

// farNumbers are none that anything may be.
var farNumbers = []int{math.MinInt, math.MinInt + 1, -1 << 32, -1 << 31, -65536, -256, -2, -1}
