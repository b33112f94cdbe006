package digest

import (
	"math/bits"
)

// Bytes are digested in parts of so many, each as words of 32 bits.
const (
	partSize  = 64
	wordSize  = 4
	partWords = partSize / wordSize
	manySize  = 8
)

// endMark is the byte behind the last one: noughts alone would not tell where the bytes end.
const endMark = 128

// addends holds, for each round, the whole part of 2^32 times the sine of its number and 1 more, without its sign.
var addends = [64]uint32{
	0xd76aa478, 0xe8c7b756, 0x242070db, 0xc1bdceee, 0xf57c0faf, 0x4787c62a, 0xa8304613, 0xfd469501,
	0x698098d8, 0x8b44f7af, 0xffff5bb1, 0x895cd7be, 0x6b901122, 0xfd987193, 0xa679438e, 0x49b40821,
	0xf61e2562, 0xc040b340, 0x265e5a51, 0xe9b6c7aa, 0xd62f105d, 0x02441453, 0xd8a1e681, 0xe7d3fbc8,
	0x21e1cde6, 0xc33707d6, 0xf4d50d87, 0x455a14ed, 0xa9e3e905, 0xfcefa3f8, 0x676f02d9, 0x8d2a4c8a,
	0xfffa3942, 0x8771f681, 0x6d9d6122, 0xfde5380c, 0xa4beea44, 0x4bdecfa9, 0xf6bb4b60, 0xbebfbc70,
	0x289b7ec6, 0xeaa127fa, 0xd4ef3085, 0x04881d05, 0xd9d4d039, 0xe6db99e5, 0x1fa27cf8, 0xc4ac5665,
	0xf4292244, 0x432aff97, 0xab9423a7, 0xfc93a039, 0x655b59c3, 0x8f0ccc92, 0xffeff47d, 0x85845dd1,
	0x6fa87e4f, 0xfe2ce6e0, 0xa3014314, 0x4e0811a1, 0xf7537e82, 0xbd3af235, 0x2ad7d2bb, 0xeb86d391,
}

// turns holds, for each sixteen of rounds, by how many bits they turn to the left: four numbers, again and again.
var turns = [4][4]int{
	{7, 12, 17, 22},
	{5, 9, 14, 20},
	{4, 11, 16, 23},
	{6, 10, 15, 21},
}

// state is what is known of bytes: the numbers of their whole parts, the part that is not whole yet, and how many bytes
// there were.
type state struct {
	numbers [4]uint32
	part    [partSize]byte
	many    int
}

// begun is the state of no bytes.
func begun() state {
	return state{numbers: [4]uint32{0x67452301, 0xefcdab89, 0x98badcfe, 0x10325476}}
}

// take digests bytes.
func (s *state) take(b []byte) {
	for len(b) > 0 {
		n := copy(s.part[s.many%partSize:], b)
		s.many += n
		b = b[n:]
		if s.many%partSize == 0 {
			s.mix()
		}
	}
}

// ended is the digest. A copy is ended, as more bytes may come.
func (s *state) ended() [Size]byte {
	last := *s
	last.take(ending(s.many))
	b := make([]byte, 0, Size)
	for _, v := range last.numbers {
		b = leastFirst(b, uint64(v), wordSize)
	}
	return [Size]byte(b)
}

// ending is what comes to so many bytes: with it their last part is whole.
func ending(many int) []byte {
	ahead := (many + 1 + manySize) % partSize
	noughts := (partSize - ahead) % partSize
	b := make([]byte, 1+noughts, 1+noughts+manySize)
	b[0] = endMark
	return leastFirst(b, 8*uint64(many), manySize)
}

// words is a whole part's.
func (s *state) words() [partWords]uint32 {
	var m [partWords]uint32
	for i, b := range s.part {
		m[i/wordSize] |= uint32(b) << (8 * (i % wordSize))
	}
	return m
}

// mix takes a whole part into the numbers.
func (s *state) mix() {
	m := s.words()
	a, b, c, d := s.numbers[0], s.numbers[1], s.numbers[2], s.numbers[3]
	// What each sixteen of rounds adds, made of the numbers as they are by then, and which word comes to it.
	sixteens := [4]func(i int) (f uint32, g int){
		func(i int) (uint32, int) { return b&c | ^b&d, i },
		func(i int) (uint32, int) { return d&b | ^d&c, 5*i + 1 },
		func(i int) (uint32, int) { return b ^ c ^ d, 3*i + 5 },
		func(i int) (uint32, int) { return c ^ (b | ^d), 7 * i },
	}
	for i, k := range addends {
		f, g := sixteens[i/16](i)
		sum := a + f + k + m[g%partWords]
		a, d, c, b = d, c, b, b+bits.RotateLeft32(sum, turns[i/16][i%4])
	}
	for i, v := range [4]uint32{a, b, c, d} {
		s.numbers[i] += v
	}
}
