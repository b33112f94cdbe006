package tags_test

import (
	"math/rand"
	"slices"
	"strings"
	"testing"

	"jetsam/api"
	"jetsam/tags"
)

// P13.3.

// gets tells that Get answers what it has to.
func gets(t *testing.T, c tags.Comments, name string, want ...string) {
	t.Helper()
	was := cloneComments(c)
	if l := c.Get(name); !slices.Equal(l, want) {
		t.Fatalf("%q of %q: %q, not %q", name, c.L, l, want)
	}
	if !sameComments(c, was) {
		t.Fatal("what was handed in is written into")
	}
}

func TestGetsValuesInOrder(t *testing.T) {
	c := noted("TITLE=a", "artist=b", "title=c", "Title=", "tit=d", "titles=e", "TiTlE=f=g", "ARTIST=é")
	for _, name := range []string{"title", "TITLE", "Title", "tItLe"} {
		gets(t, c, name, "a", "c", "", "f=g")
	}
	gets(t, c, "Artist", "b", "é")
	gets(t, c, "tit", "d")
	gets(t, c, "TITLES", "e")
	for _, name := range []string{"", "t", "titl", "title ", " title", "title=", "title=c", "TITLE=a", "v", "a", "other", "=", "é"} {
		gets(t, c, name)
	}
	gets(t, noted("A=b"), "a", "b")
	gets(t, tags.Comments{}, "a")
	gets(t, noted(), "")
}

func TestGetsTheSameValueTwice(t *testing.T) {
	gets(t, noted("a=b", "A=b", "a=b"), "a", "b", "b", "b")
}

func TestLettersOfNames(t *testing.T) {
	isLetter := func(x int) bool {
		return strings.Contains("abcdefghijklmnopqrstuvwxyz", strings.ToLower(string(rune(x))))
	}
	for x := 32; x <= 125; x++ {
		for y := 32; y <= 125; y++ {
			if x == '=' || y == '=' {
				continue
			}
			var want []string
			if x == y || isLetter(x) && isLetter(y) && (x-y == 32 || y-x == 32) {
				want = []string{"1"}
			}
			a, b := string(rune(x)), string(rune(y))
			gets(t, noted(a+"=1"), b, want...)
			gets(t, noted("n"+a+"m=1"), "N"+b+"M", want...)
		}
	}
}

func TestNoOtherAlphabetHasLettersOfNames(t *testing.T) {
	c := noted("k=1", "s=2", "i=3", "a=4", "ss=5")
	// The sign of kelvin, a long s, i without a dot and I with one, great and small letters of others.
	for _, name := range []string{"\u212a", "\u017f", "\u0131", "\u0130", "\u0430", "\uff41", "\u00df", "\u0301a", "a\u0301", "\xff", "a\xff", "\ufffd", "\u00e1"} {
		gets(t, c, name)
	}
	// No names at all, though they are what is asked for.
	gets(t, noted("\u00c9=1", "\u00e9=2", "\xff=3", "\ufffd=4"), "\u00e9")
	gets(t, noted("\xff=3", "\ufffd=4"), "\xff")
}

func TestWhatIsNoCommentHasNoValue(t *testing.T) {
	c := noted(append(notComments, "a=b", "abc=d")...)
	gets(t, c, "a", "b")
	gets(t, c, "ABC", "d")
	gets(t, c, "")
	for _, s := range notComments {
		name, _, _ := strings.Cut(s, "=")
		for _, no := range []string{name, s} {
			if no != "a" {
				gets(t, c, no)
			}
		}
	}
}

func TestGotValuesAreTheCallers(t *testing.T) {
	c := noted("a=b", "a=c")
	l := c.Get("a")
	l[0] = "x"
	_ = append(l[:1], "y")
	gets(t, c, "a", "b", "c")
}

func TestGetsAnyNames(t *testing.T) {
	rng := rand.New(rand.NewSource(3))
	found := 0
	for range 30000 {
		var c tags.Comments
		var want []string
		name := randomText(rng, 1+rng.Intn(2), "abAB")
		for range rng.Intn(6) {
			own, value := randomText(rng, 1+rng.Intn(2), "abAB"), randomText(rng, rng.Intn(3), "=aAb")
			c.L = append(c.L, own+"="+value)
			if strings.ToUpper(own) == strings.ToUpper(name) {
				want = append(want, value)
			}
		}
		gets(t, c, name, want...)
		found += len(want)
	}
	if found < 5000 {
		t.Error(found)
	}
}

// withs tells that With answers what it has to.
func withs(t *testing.T, c tags.Comments, l ...string) tags.Comments {
	t.Helper()
	was, given := cloneComments(c), slices.Clone(l)
	k := c.With(l...)
	if k.Vendor != c.Vendor || len(k.L) != len(c.L)+len(l) || !slices.Equal(k.L[:len(c.L)], c.L) || !slices.Equal(k.L[len(c.L):], l) {
		t.Fatalf("%q with %q: %q", c, l, k)
	}
	if !sameComments(c, was) || !slices.Equal(l, given) {
		t.Fatal("what was handed in is written into")
	}
	return k
}

func TestCommentsWithOthers(t *testing.T) {
	withs(t, tags.Comments{})
	withs(t, tags.Comments{}, "a=b")
	withs(t, noted())
	withs(t, noted("a=b"))
	withs(t, noted("a=b"), "a=b")
	c := withs(t, noted("a=b", "c=d"), "A=e", "a=")
	gets(t, c, "a", "b", "e", "")
	comments.both(t, c)
	c = withs(t, withs(t, c, "f=g"), "f=h")
	gets(t, c, "f", "g", "h")
	comments.both(t, c)
}

func TestWithAsksNothingOfComments(t *testing.T) {
	for _, s := range notComments {
		c := withs(t, noted("a=b"), s, "a=c")
		gets(t, c, "a", "b", "c")
		comments.writes(t, api.ErrForm, c)
		withs(t, noted(s), "a=c")
	}
}

func TestCommentsWithOthersAreTheCallers(t *testing.T) {
	// There is room behind both lists: nothing is written there, and none of the answers shares it.
	room := []string{"a=b", "behind=1", "behind=2"}
	more := []string{"c=d", "behind=3"}
	c := tags.Comments{L: room[:1]}
	k := withs(t, c, more[:1]...)
	o := withs(t, c, "e=f")
	if room[1] != "behind=1" || room[2] != "behind=2" || more[1] != "behind=3" {
		t.Error(room, more)
	}
	if k.L[1] != "c=d" || o.L[1] != "e=f" {
		t.Error(k, o)
	}
	k.L[0], k.L[1] = "x=y", "x=y"
	if room[0] != "a=b" || more[0] != "c=d" || o.L[0] != "a=b" {
		t.Error(room, more, o)
	}
	same := withs(t, c)
	same.L[0] = "x=y"
	alone := withs(t, tags.Comments{}, more[:1]...)
	alone.L[0] = "x=y"
	if room[0] != "a=b" || more[0] != "c=d" {
		t.Error(room, more)
	}
}
