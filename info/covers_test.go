package info_test

import (
	"math"
	"math/rand"
	"slices"
	"testing"

	"jetsam/api"
	"jetsam/info"
)

// P11.3.

// kept is an info of pieces of 32 to 64 samples and 20 to 90 bytes, of which the Total is not known.
func kept() info.Info {
	return info.Info{Params: sound, MinBlock: 32, MaxBlock: 64, MinFrame: 20, MaxFrame: 90}
}

func TestNoPiecesAreNotCovered(t *testing.T) {
	for _, i := range []info.Info{{}, kept(), wide(), plain(), info.Of(sound, [16]byte{}), {Total: 5}, {MinBlock: -1, MaxBlock: -1}} {
		covers(t, api.ErrNone, i)
		covers(t, api.ErrNone, i, []info.Piece{}...)
	}
}

func TestCoversOneTwoAndManyPieces(t *testing.T) {
	i := kept()
	for _, l := range [][]info.Piece{
		{piece(32, 20)},
		{piece(64, 90)},
		{piece(1, 50)},
		{piece(32, 20), piece(64, 90)},
		{piece(64, 90), piece(32, 20)},
		{piece(64, 90), piece(31, 20)},
		{piece(64, 90), piece(0, 20)},
		slices.Repeat([]info.Piece{piece(48, 30)}, 1000),
	} {
		covers(t, api.OK, i, l...)
		i.Total = sumOf(blocksOf(l))
		covers(t, api.OK, i, l...)
		i.Total = 0
	}
}

// at is four pieces that are covered, of which one is another.
func at(k int, p info.Piece) []info.Piece {
	l := []info.Piece{piece(64, 90), piece(32, 20), piece(40, 30), piece(50, 40)}
	l[k] = p
	return l
}

func TestEachReasonAloneWhereverThePieceStands(t *testing.T) {
	for k := range 4 {
		last := api.ErrParam
		if k == 3 {
			last = api.OK
		}
		for _, c := range []struct {
			p info.Piece
			e api.Errno
		}{
			{piece(64, 30), api.OK},
			{piece(65, 30), api.ErrParam},
			{piece(65535, 30), api.ErrParam},
			{piece(math.MaxInt, 30), api.ErrParam},
			{piece(32, 30), api.OK},
			{piece(31, 30), last},
			{piece(1, 30), last},
			{piece(0, 30), last},
			{piece(-1, 30), last},
			{piece(40, 20), api.OK},
			{piece(40, 19), api.ErrParam},
			{piece(40, 0), api.ErrParam},
			{piece(40, math.MinInt), api.ErrParam},
			{piece(40, 90), api.OK},
			{piece(40, 91), api.ErrParam},
			{piece(40, 1<<24), api.ErrParam},
			{piece(40, math.MaxInt), api.ErrParam},
		} {
			i, l := kept(), at(k, c.p)
			covers(t, c.e, i, l...)
			// The Total does not mend it.
			i.Total = sumOf(blocksOf(l))
			covers(t, c.e, i, l...)
			i.Total++
			if c.e == api.OK {
				covers(t, api.ErrParam, i, l...)
			}
		}
	}
}

func TestOnePieceAloneIsTheLast(t *testing.T) {
	i := kept()
	covers(t, api.OK, i, piece(5, 20))
	covers(t, api.ErrParam, i, piece(5, 19))
	covers(t, api.ErrParam, i, piece(5, 91))
	covers(t, api.ErrParam, i, piece(65, 50))
	i.Total = 5
	covers(t, api.OK, i, piece(5, 20))
	covers(t, api.ErrParam, i, piece(6, 20))
	covers(t, api.ErrParam, i, piece(4, 20))
}

func TestSizesThatAreNotKnownDoNotCount(t *testing.T) {
	for _, c := range []struct {
		least, most int
		small       api.Errno
		great       api.Errno
	}{
		{20, 90, api.ErrParam, api.ErrParam},
		{20, 0, api.ErrParam, api.OK},
		{0, 90, api.OK, api.ErrParam},
		{0, 0, api.OK, api.OK},
	} {
		for k := range 4 {
			i := kept()
			i.MinFrame, i.MaxFrame = c.least, c.most
			covers(t, c.small, i, at(k, piece(40, 19))...)
			covers(t, c.small, i, at(k, piece(40, -1))...)
			covers(t, c.great, i, at(k, piece(40, 91))...)
			covers(t, c.great, i, at(k, piece(40, 1<<24))...)
		}
	}
}

func TestTotalIsTheSumOfAllBlocks(t *testing.T) {
	l := at(0, piece(64, 90))
	for total := 1; total < 400; total++ {
		i := kept()
		i.Total = total
		want := api.ErrParam
		if total == 64+32+40+50 {
			want = api.OK
		}
		covers(t, want, i, l...)
	}
	for _, total := range []int{-1, -186, 186 << 32, 1<<32 + 186, 1<<36 + 186, math.MinInt, math.MaxInt} {
		i := kept()
		i.Total = total
		covers(t, api.ErrParam, i, l...)
	}
}

func TestCoversAlsoOfInfosThatMayNotBe(t *testing.T) {
	covers(t, api.ErrParam, info.Info{}, piece(1, 1))
	covers(t, api.OK, info.Info{}, piece(0, 1))
	covers(t, api.OK, info.Info{MinBlock: 1, MaxBlock: 1}, piece(1, 1), piece(1, 1))
	covers(t, api.OK, info.Info{MinBlock: 9, MaxBlock: 5}, piece(5, 1))
	covers(t, api.ErrParam, info.Info{MinBlock: 9, MaxBlock: 5}, piece(5, 1), piece(5, 1))
	covers(t, api.OK, info.Info{MaxBlock: 1 << 40, MinFrame: -5, MaxFrame: 1 << 40}, piece(1<<40, 1<<40))
	covers(t, api.ErrParam, info.Info{MaxBlock: 5, MaxFrame: -5}, piece(1, 0))
	covers(t, api.ErrParam, info.Info{MaxBlock: 5, MinFrame: 7, MaxFrame: 6}, piece(1, 6))
	covers(t, api.ErrParam, info.Info{MaxBlock: 5, MinFrame: 7, MaxFrame: 6}, piece(1, 7))
}

func TestCoversAnyPieces(t *testing.T) {
	rng := rand.New(rand.NewSource(9))
	many := map[api.Errno]int{}
	for range 60000 {
		l := make([]info.Piece, rng.Intn(5))
		for k := range l {
			l[k] = piece(some(rng, 31, 32, 33, 48, 63, 64, 64, 65), some(rng, 19, 20, 21, 50, 50, 89, 90, 91))
		}
		i := info.Info{MinBlock: some(rng, 16, 31, 32), MaxBlock: some(rng, 64, 65, 65535), MinFrame: some(rng, 0, 19, 20), MaxFrame: some(rng, 0, 90, 91)}
		sum := sumOf(blocksOf(l))
		i.Total = some(rng, 0, sum, sum, sum+1)
		e := coversOf(i, l)
		many[e]++
		covers(t, e, i, l...)
	}
	if many[api.OK] < 5000 || many[api.ErrParam] < 5000 || many[api.ErrNone] < 5000 {
		t.Error(many)
	}
}

func TestASumIsKnownByAnyOfItsBytes(t *testing.T) {
	if (info.Info{}).Known() || wide().Known() {
		t.Error("a sum of noughts is known")
	}
	// All other numbers do not count.
	i := plain()
	i.Sum = [16]byte{}
	if i.Known() {
		t.Error("a sum of noughts is known")
	}
	for at := range 16 {
		for x := 1; x < 256; x++ {
			i := info.Info{}
			i.Sum[at] = byte(x)
			k := plain()
			k.Sum = i.Sum
			if !i.Known() || !k.Known() {
				t.Error(at, x)
			}
		}
	}
	if !(info.Info{Sum: [16]byte{0: 255, 15: 1}}).Known() {
		t.Error("a sum is not known")
	}
}
