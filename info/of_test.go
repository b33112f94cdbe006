package info_test

import (
	"math/rand"
	"slices"
	"testing"

	"jetsam/api"
	"jetsam/info"
)

// P11.2.

// sound is what streams of the tests are.
var sound = api.Params{Rate: 44100, Channels: 2, Depth: 16}

// is tells what Of answers: MinBlock, MaxBlock, MinFrame, MaxFrame and Total.
func is(t *testing.T, least, most, small, great, total int, l ...info.Piece) {
	t.Helper()
	sum := [16]byte{1, 2, 15: 3}
	want := info.Info{Params: sound, MinBlock: least, MaxBlock: most, MinFrame: small, MaxFrame: great, Total: total, Sum: sum}
	if i := ofs(t, sound, sum, l...); i != want {
		t.Errorf("%v: %+v, not %+v", l, i, want)
	}
}

func TestOfTheExample(t *testing.T) {
	is(t, 64, 64, 50, 100, 84, piece(64, 100), piece(20, 50))
}

func TestOfNoPieces(t *testing.T) {
	is(t, 16, 16, 0, 0, 0)
	is(t, 16, 16, 0, 0, 0, []info.Piece{}...)
}

func TestOfOnePieceAlone(t *testing.T) {
	is(t, 4096, 4096, 900, 900, 4096, piece(4096, 900))
	is(t, 65535, 65535, 1, 1, 65535, piece(65535, 1))
	is(t, 17, 17, 1, 1, 17, piece(17, 1))
	is(t, 16, 16, 1, 1, 16, piece(16, 1))
	for block := 1; block < 16; block++ {
		is(t, 16, 16, 9, 9, block, piece(block, 9))
	}
}

func TestTheLastPieceMayBeSmallerOrGreater(t *testing.T) {
	for _, ahead := range [][]info.Piece{{piece(100, 50)}, {piece(100, 50), piece(100, 50)}, {piece(100, 50), piece(100, 50), piece(100, 50)}} {
		n := 100 * len(ahead)
		is(t, 100, 100, 20, 50, n+1, append(ahead, piece(1, 20))...)
		is(t, 100, 100, 50, 50, n+99, append(ahead, piece(99, 50))...)
		is(t, 100, 100, 50, 50, n+100, append(ahead, piece(100, 50))...)
		is(t, 100, 101, 50, 60, n+101, append(ahead, piece(101, 60))...)
		is(t, 100, 65535, 50, 70, n+65535, append(ahead, piece(65535, 70))...)
	}
	is(t, 32, 64, 20, 90, 101, piece(64, 30), piece(32, 90), piece(5, 20))
	is(t, 33, 64, 20, 90, 129, piece(64, 30), piece(33, 20), piece(32, 90))
	is(t, 32, 64, 20, 90, 129, piece(32, 90), piece(33, 20), piece(64, 30))
}

func TestTheLeastAndTheGreatestWhereverTheyStand(t *testing.T) {
	rng := rand.New(rand.NewSource(14))
	l := []info.Piece{piece(20, 4), piece(30, 3), piece(40, 2), piece(50, 1)}
	for range 200 {
		rng.Shuffle(len(l), func(a, b int) { l[a], l[b] = l[b], l[a] })
		least := 20
		if l[3].Block == 20 {
			least = 30
		}
		is(t, least, 50, 1, 4, 140, l...)
	}
}

func TestBlocksBelow16(t *testing.T) {
	for _, c := range []struct {
		l           []info.Piece
		least, most int
	}{
		{[]info.Piece{piece(15, 9), piece(15, 9)}, 16, 16},
		{[]info.Piece{piece(1, 9), piece(15, 9), piece(3, 9)}, 16, 16},
		{[]info.Piece{piece(15, 9), piece(16, 9)}, 16, 16},
		{[]info.Piece{piece(15, 9), piece(17, 9)}, 16, 17},
		{[]info.Piece{piece(17, 9), piece(15, 9)}, 17, 17},
		{[]info.Piece{piece(17, 9), piece(15, 9), piece(1, 9)}, 16, 17},
		{[]info.Piece{piece(16, 9), piece(40, 9), piece(1, 9)}, 16, 40},
		{[]info.Piece{piece(0, 9)}, 16, 16},
		{[]info.Piece{piece(-5, 9), piece(-20, 9)}, 16, 16},
	} {
		is(t, c.least, c.most, 9, 9, sumOf(blocksOf(c.l)), c.l...)
	}
}

func TestSizesThatAreTooGreatAreNotTold(t *testing.T) {
	const most = 16777215
	is(t, 64, 64, most, most, 64, piece(64, most))
	is(t, 64, 64, 0, 0, 64, piece(64, most+1))
	is(t, 64, 64, 0, 0, 64, piece(64, 1<<32+5))
	// Each of the two by itself.
	is(t, 64, 64, 7, 0, 128, piece(64, 7), piece(64, most+1))
	is(t, 64, 64, 7, 0, 128, piece(64, most+1), piece(64, 7))
	is(t, 64, 64, most, 0, 128, piece(64, most), piece(64, most+1))
	is(t, 64, 64, 0, 0, 128, piece(64, most+1), piece(64, most+2))
	is(t, 64, 64, 7, most, 128, piece(64, 7), piece(64, most))
	is(t, 64, 64, 0, 5, 128, piece(64, 0), piece(64, 5))
}

func TestTheLastPiecesBytesCount(t *testing.T) {
	is(t, 64, 64, 1, 5, 192, piece(64, 5), piece(64, 3), piece(64, 1))
	is(t, 64, 64, 3, 9, 192, piece(64, 5), piece(64, 3), piece(64, 9))
	is(t, 64, 64, 3, 0, 192, piece(64, 5), piece(64, 3), piece(64, 1<<24))
}

func TestOfManyPieces(t *testing.T) {
	l := slices.Repeat([]info.Piece{piece(65535, 3)}, 1<<16)
	is(t, 65535, 65535, 3, 3, 65535<<16, l...)
	l[0].Block, l[1].Bytes, l[len(l)-1] = 16, 4, piece(1, 2)
	is(t, 16, 65535, 2, 4, 65535<<16-65535-65534+16, l...)
}

func TestParamsAndSumAreAsTold(t *testing.T) {
	rng := rand.New(rand.NewSource(6))
	numbers := append([]int{0, 1, 2, 16, 44100}, farNumbers...)
	for range 2000 {
		p := api.Params{Rate: some(rng, numbers...), Channels: some(rng, numbers...), Depth: some(rng, numbers...)}
		sum := randomSum(rng)
		l := randomPieces(rng, rng.Intn(4))
		if i := ofs(t, p, sum, l...); i.Params != p || i.Sum != sum || i.Known() != (sum != [16]byte{}) {
			t.Fatalf("%+v, %x: %+v", p, sum, i)
		}
	}
}

func TestOfAnyPieces(t *testing.T) {
	rng := rand.New(rand.NewSource(7))
	for n := range 20000 {
		ofs(t, sound, randomSum(rng), randomPieces(rng, n%12)...)
		ofs(t, sound, randomSum(rng), anyPieces(rng, n%6)...)
	}
}

// anyPieces are pieces of any numbers, also those that no frame has.
func anyPieces(rng *rand.Rand, many int) []info.Piece {
	l := make([]info.Piece, many)
	for k := range l {
		l[k] = piece(some(rng, -3, 0, 1, 15, 16, 17, 65535, 65536, 1<<40), some(rng, -3, 0, 1, 5, 1<<24-1, 1<<24, 1<<40))
	}
	return l
}

func TestOfDoesNotWriteIntoItsPieces(t *testing.T) {
	rng := rand.New(rand.NewSource(8))
	for range 1000 {
		l := randomPieces(rng, 1+rng.Intn(6))
		before, n := slices.Clone(l), rng.Intn(len(l)+1)
		i := info.Of(sound, [16]byte{}, l[:n]...)
		i.Covers(l[:n]...)
		if !slices.Equal(l, before) {
			t.Fatal(l, before)
		}
	}
}
