package hash

import "math/bits"

const (
	stateWords = 8
	sumSize    = 4 * stateWords
	blockSize  = 64
	blockWords = blockSize / 4
	lengthAt   = blockSize - 8 // where the last block has the length of the message
)

// rounds are the constants k(0) to k(63).
var rounds = [64]uint32{
	0x428a2f98, 0x71374491, 0xb5c0fbcf, 0xe9b5dba5, 0x3956c25b, 0x59f111f1, 0x923f82a4, 0xab1c5ed5,
	0xd807aa98, 0x12835b01, 0x243185be, 0x550c7dc3, 0x72be5d74, 0x80deb1fe, 0x9bdc06a7, 0xc19bf174,
	0xe49b69c1, 0xefbe4786, 0x0fc19dc6, 0x240ca1cc, 0x2de92c6f, 0x4a7484aa, 0x5cb0a9dc, 0x76f988da,
	0x983e5152, 0xa831c66d, 0xb00327c8, 0xbf597fc7, 0xc6e00bf3, 0xd5a79147, 0x06ca6351, 0x14292967,
	0x27b70a85, 0x2e1b2138, 0x4d2c6dfc, 0x53380d13, 0x650a7354, 0x766a0abb, 0x81c2c92e, 0x92722c85,
	0xa2bfe8a1, 0xa81a664b, 0xc24b8b70, 0xc76c51a3, 0xd192e819, 0xd6990624, 0xf40e3585, 0x106aa070,
	0x19a4c116, 0x1e376c08, 0x2748774c, 0x34b0bcb5, 0x391c0cb3, 0x4ed8aa4a, 0x5b9cca4f, 0x682e6ff3,
	0x748f82ee, 0x78a5636f, 0x84c87814, 0x8cc70208, 0x90befffa, 0xa4506ceb, 0xbef9a3f7, 0xc67178f2,
}

// compress returns the hash value that a block makes of another one.
func compress(state [stateWords]uint32, block [blockSize]byte) [stateWords]uint32 {
	w := schedule(block)
	a, b, c, d, e, f, g, h := state[0], state[1], state[2], state[3], state[4], state[5], state[6], state[7]
	for t := range rounds {
		x := h + (rotr(e, 6) ^ rotr(e, 11) ^ rotr(e, 25)) + (e&f ^ ^e&g) + rounds[t] + w[t]
		y := (rotr(a, 2) ^ rotr(a, 13) ^ rotr(a, 22)) + (a&b ^ a&c ^ b&c)
		a, b, c, d, e, f, g, h = x+y, a, b, c, d+x, e, f, g
	}
	for i, x := range [stateWords]uint32{a, b, c, d, e, f, g, h} {
		state[i] += x
	}
	return state
}

// schedule returns the words w(0) to w(63) of a block.
func schedule(block [blockSize]byte) [64]uint32 {
	var w [64]uint32
	for t := range blockWords {
		w[t] = uint32(block[4*t])<<24 | uint32(block[4*t+1])<<16 | uint32(block[4*t+2])<<8 | uint32(block[4*t+3])
	}
	for t := blockWords; t < len(w); t++ {
		x, y := w[t-15], w[t-2]
		s0 := rotr(x, 7) ^ rotr(x, 18) ^ x>>3
		s1 := rotr(y, 17) ^ rotr(y, 19) ^ y>>10
		w[t] = w[t-16] + s0 + w[t-7] + s1
	}
	return w
}

// rotr returns x, rotated right by n bits.
func rotr(x uint32, n int) uint32 { return bits.RotateLeft32(x, -n) }

// bytesOf returns the bytes of a hash value.
func bytesOf(state [stateWords]uint32) [sumSize]byte {
	var b [sumSize]byte
	for i, x := range state {
		b[4*i], b[4*i+1], b[4*i+2], b[4*i+3] = byte(x>>24), byte(x>>16), byte(x>>8), byte(x)
	}
	return b
}

// bigEndian64 returns the bytes of a number, the most significant one first.
func bigEndian64(x uint64) [8]byte {
	var b [8]byte
	for i := range b {
		b[i] = byte(x >> (56 - 8*i))
	}
	return b
}
