// Package digest computes SHA-256 checksums.
package digest

import "math/bits"

// blockSize is the number of bytes that change the state together.
const blockSize = 64

// hexDigits are the digits of a result, by their values.
const hexDigits = "0123456789abcdef"

// roundConstants are the first 32 bits of the fractional parts of the cube roots of the first 64 primes.
var roundConstants = [64]uint32{
	0x428a2f98, 0x71374491, 0xb5c0fbcf, 0xe9b5dba5, 0x3956c25b, 0x59f111f1, 0x923f82a4, 0xab1c5ed5,
	0xd807aa98, 0x12835b01, 0x243185be, 0x550c7dc3, 0x72be5d74, 0x80deb1fe, 0x9bdc06a7, 0xc19bf174,
	0xe49b69c1, 0xefbe4786, 0x0fc19dc6, 0x240ca1cc, 0x2de92c6f, 0x4a7484aa, 0x5cb0a9dc, 0x76f988da,
	0x983e5152, 0xa831c66d, 0xb00327c8, 0xbf597fc7, 0xc6e00bf3, 0xd5a79147, 0x06ca6351, 0x14292967,
	0x27b70a85, 0x2e1b2138, 0x4d2c6dfc, 0x53380d13, 0x650a7354, 0x766a0abb, 0x81c2c92e, 0x92722c85,
	0xa2bfe8a1, 0xa81a664b, 0xc24b8b70, 0xc76c51a3, 0xd192e819, 0xd6990624, 0xf40e3585, 0x106aa070,
	0x19a4c116, 0x1e376c08, 0x2748774c, 0x34b0bcb5, 0x391c0cb3, 0x4ed8aa4a, 0x5b9cca4f, 0x682e6ff3,
	0x748f82ee, 0x78a5636f, 0x84c87814, 0x8cc70208, 0x90befffa, 0xa4506ceb, 0xbef9a3f7, 0xc67178f2,
}

// Sum returns the SHA-256 checksum of s in 64 lowercase hexadecimal digits.
func Sum(s string) string {
	state := [8]uint32{
		0x6a09e667, 0xbb67ae85, 0x3c6ef372, 0xa54ff53a, 0x510e527f, 0x9b05688c, 0x1f83d9ab, 0x5be0cd19,
	}
	whole := len(s) - len(s)%blockSize
	state = absorb(state, s[:whole])
	state = absorb(state, ending(s[whole:], len(s)))
	return inHex(state)
}

// ending returns the end of the message of a text of the given length: rest, its bytes after the last whole block, and the padding. The whole blocks are left out so that a long text is not copied.
func ending(rest string, length int) string {
	b := append([]byte(rest), 128)
	for len(b)%blockSize != blockSize-8 {
		b = append(b, 0)
	}
	n := uint64(length) * 8
	for i := range 8 {
		b = append(b, byte(n>>(56-8*i)))
	}
	return string(b)
}

// absorb returns the state after the blocks of s, whose length is a multiple of blockSize.
func absorb(state [8]uint32, s string) [8]uint32 {
	for i := range len(s) / blockSize {
		state = compress(state, s[blockSize*i:blockSize*(i+1)])
	}
	return state
}

// compress returns the state after one block.
func compress(state [8]uint32, block string) [8]uint32 {
	w := schedule(block)
	v := state // a to h
	for i := range 64 {
		t := v[7] + mixE(v[4]) + choose(v[4], v[5], v[6]) + roundConstants[i] + w[i]
		u := mixA(v[0]) + majority(v[0], v[1], v[2])
		copy(v[1:], v[:7]) // e now has the old d and lacks only t
		v[4] += t
		v[0] = t + u
	}
	for i := range 8 {
		state[i] += v[i]
	}
	return state
}

// schedule returns the words of the rounds of a block.
func schedule(block string) [64]uint32 {
	var w [64]uint32
	for i := range 16 {
		w[i] = wordAt(block, 4*i)
	}
	for i := 16; i < 64; i++ {
		w[i] = w[i-16] + spreadNear(w[i-15]) + w[i-7] + spreadFar(w[i-2])
	}
	return w
}

// wordAt returns the four bytes of s from i on, the first one being the most significant.
func wordAt(s string, i int) uint32 {
	return uint32(s[i])<<24 | uint32(s[i+1])<<16 | uint32(s[i+2])<<8 | uint32(s[i+3])
}

// inHex returns the words of the state in hexadecimal digits.
func inHex(state [8]uint32) string {
	var b []byte
	for i := range 8 {
		for j := range 8 {
			b = append(b, hexDigits[state[i]>>(28-4*j)&15])
		}
	}
	return string(b)
}

// right returns x rotated right by n.
func right(x uint32, n int) uint32 { return bits.RotateLeft32(x, -n) }

func spreadNear(x uint32) uint32 { return right(x, 7) ^ right(x, 18) ^ x>>3 }

func spreadFar(x uint32) uint32 { return right(x, 17) ^ right(x, 19) ^ x>>10 }

func mixA(a uint32) uint32 { return right(a, 2) ^ right(a, 13) ^ right(a, 22) }

func mixE(e uint32) uint32 { return right(e, 6) ^ right(e, 11) ^ right(e, 25) }

func choose(e, f, g uint32) uint32 { return e&f ^ ^e&g }

func majority(a, b, c uint32) uint32 { return a&b ^ a&c ^ b&c }
