// Package hash is layer 1, SHA-256: see shared/doc/01-hash.md.
package hash

import (
	"math/bits"
)

// Size is the number of bytes of a digest, Block the number of bytes that are processed at once.
const (
	Size  = 32
	Block = 64
)

const (
	rounds    = 64
	lengthLen = 8 // the bytes at the end of the padding that hold the message's length
	hexDigits = "0123456789abcdef"
)

// The fractional parts of the square roots of the first eight primes.
var initialWords = [8]uint32{
	0x6a09e667, 0xbb67ae85, 0x3c6ef372, 0xa54ff53a, 0x510e527f, 0x9b05688c, 0x1f83d9ab, 0x5be0cd19,
}

// The fractional parts of the cube roots of the first 64 primes.
var roundWords = [rounds]uint32{
	0x428a2f98, 0x71374491, 0xb5c0fbcf, 0xe9b5dba5, 0x3956c25b, 0x59f111f1, 0x923f82a4, 0xab1c5ed5,
	0xd807aa98, 0x12835b01, 0x243185be, 0x550c7dc3, 0x72be5d74, 0x80deb1fe, 0x9bdc06a7, 0xc19bf174,
	0xe49b69c1, 0xefbe4786, 0x0fc19dc6, 0x240ca1cc, 0x2de92c6f, 0x4a7484aa, 0x5cb0a9dc, 0x76f988da,
	0x983e5152, 0xa831c66d, 0xb00327c8, 0xbf597fc7, 0xc6e00bf3, 0xd5a79147, 0x06ca6351, 0x14292967,
	0x27b70a85, 0x2e1b2138, 0x4d2c6dfc, 0x53380d13, 0x650a7354, 0x766a0abb, 0x81c2c92e, 0x92722c85,
	0xa2bfe8a1, 0xa81a664b, 0xc24b8b70, 0xc76c51a3, 0xd192e819, 0xd6990624, 0xf40e3585, 0x106aa070,
	0x19a4c116, 0x1e376c08, 0x2748774c, 0x34b0bcb5, 0x391c0cb3, 0x4ed8aa4a, 0x5b9cca4f, 0x682e6ff3,
	0x748f82ee, 0x78a5636f, 0x84c87814, 0x8cc70208, 0x90befffa, 0xa4506ceb, 0xbef9a3f7, 0xc67178f2,
}

// State is the digest of a message in progress.
type State struct {
	words [8]uint32
	tail  [Block]byte // begins with the bytes that do not fill a block yet
	count uint64      // the bytes written so far
}

// New returns a state to which nothing has been written.
func New() *State {
	return &State{words: initialWords}
}

// Write appends the parts, one after the other, and returns the state.
func (s *State) Write(parts ...string) *State {
	for _, part := range parts {
		s.add(part)
	}
	return s
}

// Sum returns the digest of everything written so far; more may be written afterwards.
func (s *State) Sum() [Size]byte {
	// The padding goes into a copy, so that the message can go on.
	end := *s
	end.add(padding(s.count))
	var digest [Size]byte
	for i, word := range end.words {
		for j := range 4 {
			digest[4*i+j] = byte(word >> (24 - 8*j))
		}
	}
	return digest
}

// Of returns the digest of the parts, one after the other.
func Of(parts ...string) [Size]byte {
	return New().Write(parts...).Sum()
}

// Hex returns two digits for each byte.
func Hex(b [Size]byte) string {
	text := make([]byte, 0, 2*Size)
	for _, x := range b {
		text = append(text, hexDigits[x>>4], hexDigits[x&15])
	}
	return string(text)
}

func (s *State) add(part string) {
	for len(part) > 0 {
		n := copy(s.tail[s.count%Block:], part)
		part = part[n:]
		s.count += uint64(n)
		if s.count%Block == 0 {
			s.words = mix(s.words, s.tail)
		}
	}
}

// padding returns what follows a message of count bytes, up to the end of a block.
func padding(count uint64) string {
	filled := (count + 1) % Block
	zeros := (2*Block - lengthLen - filled) % Block
	pad := make([]byte, 1+zeros, 1+zeros+lengthLen)
	pad[0] = 0x80
	for shift := 56; shift >= 0; shift -= 8 {
		pad = append(pad, byte(8*count>>shift))
	}
	return string(pad)
}

// mix processes one block.
func mix(words [8]uint32, block [Block]byte) [8]uint32 {
	a, b, c, d := words[0], words[1], words[2], words[3]
	e, f, g, h := words[4], words[5], words[6], words[7]
	for i, w := range schedule(block) {
		choice := e&f ^ ^e&g
		majority := a&b ^ a&c ^ b&c
		t := h + rotations(e, 6, 11, 25) + choice + roundWords[i] + w
		u := rotations(a, 2, 13, 22) + majority
		a, b, c, d, e, f, g, h = t+u, a, b, c, d+t, e, f, g
	}
	return [8]uint32{
		words[0] + a, words[1] + b, words[2] + c, words[3] + d,
		words[4] + e, words[5] + f, words[6] + g, words[7] + h,
	}
}

// schedule expands a block into one word for each round.
func schedule(block [Block]byte) [rounds]uint32 {
	var w [rounds]uint32
	for i := range 16 {
		for _, x := range block[4*i : 4*i+4] {
			w[i] = w[i]<<8 | uint32(x)
		}
	}
	for i := 16; i < rounds; i++ {
		s0 := rotated(w[i-15], 7) ^ rotated(w[i-15], 18) ^ w[i-15]>>3
		s1 := rotated(w[i-2], 17) ^ rotated(w[i-2], 19) ^ w[i-2]>>10
		w[i] = w[i-16] + s0 + w[i-7] + s1
	}
	return w
}

// rotations combines three rotations of a word.
func rotations(x uint32, n, m, o int) uint32 {
	return rotated(x, n) ^ rotated(x, m) ^ rotated(x, o)
}

// rotated rotates a word to the right.
func rotated(x uint32, n int) uint32 {
	return bits.RotateLeft32(x, -n)
}
