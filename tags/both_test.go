package tags_test

import (
	"bytes"
	"math/rand"
	"testing"

	"jetsam/api"
)

// P13.4.

// again tells that what is read of bytes is written as these bytes, and that enough of them are read.
func (k kind[T]) again(t *testing.T, bytesOf func() []byte) {
	t.Helper()
	right := 0
	for range 30000 {
		b := bytesOf()
		x, e := k.read(b)
		if e != api.OK {
			continue
		}
		right++
		if c := k.writes(t, api.OK, x); !bytes.Equal(c, b) {
			t.Fatalf("%x, %s, %x", b, brief(x), c)
		}
	}
	if right < 3000 {
		t.Error("too few were read", right)
	}
}

// spoilt is bytes, few of which are others now.
func spoilt(rng *rand.Rand, b []byte, e api.Errno) []byte {
	if e != api.OK {
		panic(e)
	}
	for range rng.Intn(4) {
		b[rng.Intn(len(b))] = some(rng, 0, 1, 64, 'A', '=', 128, byte(rng.Intn(256)))
	}
	return b
}

func TestReadOfWriteIsWhatWasWritten(t *testing.T) {
	rng := rand.New(rand.NewSource(8))
	for range 20000 {
		comments.both(t, randomComments(rng))
		pictures.both(t, randomPicture(rng))
		cues.both(t, randomCue(rng))
	}
}

func TestWriteOfReadIsTheBytes(t *testing.T) {
	rng := rand.New(rand.NewSource(9))
	comments.again(t, func() []byte {
		b, e := randomComments(rng).Write()
		return spoilt(rng, b, e)
	})
	pictures.again(t, func() []byte {
		b, e := randomPicture(rng).Write()
		return spoilt(rng, b, e)
	})
	cues.again(t, func() []byte {
		b, e := randomCue(rng).Write()
		return spoilt(rng, b, e)
	})
}

func TestNoBeginningOfBytesIsAThing(t *testing.T) {
	rng := rand.New(rand.NewSource(10))
	for range 50 {
		comments.ends(t, comments.both(t, randomComments(rng)))
		pictures.ends(t, pictures.both(t, randomPicture(rng)))
	}
	for range 5 {
		cues.ends(t, cues.both(t, randomCue(rng)))
	}
}
