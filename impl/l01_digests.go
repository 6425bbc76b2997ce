package impl

import (
	"math/bits"
	"strings"
)

const (
	digestHead = "sha256:"
	hexDigits  = "0123456789abcdef"
	hexCount   = 64
	blockSize  = 64
	lengthAt   = 56 // where, in the last block, the 64 bits of the length begin
)

type block [blockSize]byte

type hashWords [8]uint32

var roundWords = [64]uint32{
	0x428a2f98, 0x71374491, 0xb5c0fbcf, 0xe9b5dba5, 0x3956c25b, 0x59f111f1, 0x923f82a4, 0xab1c5ed5,
	0xd807aa98, 0x12835b01, 0x243185be, 0x550c7dc3, 0x72be5d74, 0x80deb1fe, 0x9bdc06a7, 0xc19bf174,
	0xe49b69c1, 0xefbe4786, 0x0fc19dc6, 0x240ca1cc, 0x2de92c6f, 0x4a7484aa, 0x5cb0a9dc, 0x76f988da,
	0x983e5152, 0xa831c66d, 0xb00327c8, 0xbf597fc7, 0xc6e00bf3, 0xd5a79147, 0x06ca6351, 0x14292967,
	0x27b70a85, 0x2e1b2138, 0x4d2c6dfc, 0x53380d13, 0x650a7354, 0x766a0abb, 0x81c2c92e, 0x92722c85,
	0xa2bfe8a1, 0xa81a664b, 0xc24b8b70, 0xc76c51a3, 0xd192e819, 0xd6990624, 0xf40e3585, 0x106aa070,
	0x19a4c116, 0x1e376c08, 0x2748774c, 0x34b0bcb5, 0x391c0cb3, 0x4ed8aa4a, 0x5b9cca4f, 0x682e6ff3,
	0x748f82ee, 0x78a5636f, 0x84c87814, 0x8cc70208, 0x90befffa, 0xa4506ceb, 0xbef9a3f7, 0xc67178f2,
}

func Rotate(x uint32, n int64) uint32 {
	// The lowest five bits are n modulo 32 also for an n below 0, and a turn
	// that small can be negated without passing any limit.
	return bits.RotateLeft32(x, -int(n&31))
}

func Sum(data string) []uint32 {
	h := hashWords{
		0x6a09e667, 0xbb67ae85, 0x3c6ef372, 0xa54ff53a,
		0x510e527f, 0x9b05688c, 0x1f83d9ab, 0x5be0cd19,
	}
	rest := data
	for len(rest) >= blockSize {
		var b block
		copy(b[:], rest)
		h = h.with(b)
		rest = rest[blockSize:]
	}
	for _, b := range lastBlocks(rest, uint64(len(data))*8) {
		h = h.with(b)
	}
	return h[:]
}

// lastBlocks ends the data: rest is shorter than a block, so one block is
// enough unless the length finds no room behind the bit 1.
func lastBlocks(rest string, bitCount uint64) []block {
	blocks := make([]block, 1, 2)
	copy(blocks[0][:], rest)
	blocks[0][len(rest)] = 0x80
	if len(rest) >= lengthAt {
		blocks = append(blocks, block{})
	}
	last := &blocks[len(blocks)-1]
	for i := lengthAt; i < blockSize; i++ {
		last[i] = byte(bitCount >> (8 * (blockSize - 1 - i)))
	}
	return blocks
}

func (h hashWords) with(b block) hashWords {
	w := schedule(b)
	v := h
	for t := range w {
		v = v.round(roundWords[t] + w[t])
	}
	for i := range h {
		h[i] += v[i]
	}
	return h
}

func schedule(b block) [64]uint32 {
	var w [64]uint32
	for t := range 16 {
		w[t] = highFirst(b[4*t], b[4*t+1], b[4*t+2], b[4*t+3])
	}
	for t := 16; t < len(w); t++ {
		x, y := w[t-15], w[t-2]
		s0 := Rotate(x, 7) ^ Rotate(x, 18) ^ x>>3
		s1 := Rotate(y, 17) ^ Rotate(y, 19) ^ y>>10
		w[t] = s1 + w[t-7] + s0 + w[t-16]
	}
	return w
}

func (v hashWords) round(added uint32) hashWords {
	a, b, c, d, e, f, g, h := v[0], v[1], v[2], v[3], v[4], v[5], v[6], v[7]
	s1 := Rotate(e, 6) ^ Rotate(e, 11) ^ Rotate(e, 25)
	t1 := h + s1 + (e&f ^ ^e&g) + added
	s0 := Rotate(a, 2) ^ Rotate(a, 13) ^ Rotate(a, 22)
	t2 := s0 + (a&b ^ a&c ^ b&c)
	return hashWords{t1 + t2, a, b, c, d + t1, e, f, g}
}

func highFirst(a, b, c, d byte) uint32 {
	return uint32(a)<<24 | uint32(b)<<16 | uint32(c)<<8 | uint32(d)
}

func Digest(data string) string {
	text := []byte(digestHead)
	for _, word := range Sum(data) {
		for shift := 28; shift >= 0; shift -= 4 {
			text = append(text, hexDigits[word>>shift&15])
		}
	}
	return string(text)
}

func DigestOk(d string) bool {
	digits, ok := strings.CutPrefix(d, digestHead)
	if !ok || len(digits) != hexCount {
		return false
	}
	for i := range len(digits) {
		if hexValue(digits[i]) < 0 {
			return false
		}
	}
	return true
}

// hexValue is -1 for a capital digit too: two texts of one digest would
// otherwise be two keys.
func hexValue(c byte) int64 {
	return int64(strings.IndexByte(hexDigits, c))
}

func Nibble(d string, k int64) int64 {
	if !DigestOk(d) || k < 0 || k >= hexCount {
		return -1
	}
	return hexValue(d[int64(len(digestHead))+k])
}

func Mixed(a string, b string) uint64 {
	words := Sum(a + "\x00" + b)
	return uint64(words[0])<<32 | uint64(words[1])
}
