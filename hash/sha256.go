// Package hash has SHA-256 (FIPS 180-4), and HMAC with it (RFC 2104).
package hash

import "math/bits"

// Size is how many bytes a hash has.
const Size = 32

// Sum is a hash.
type Sum [Size]byte

// blockSize is how many bytes are mixed in at once.
const blockSize = 64

// constants are the first 32 bits behind the point of the cube roots of the first 64 primes.
var constants = [64]uint32{
	0x428a2f98, 0x71374491, 0xb5c0fbcf, 0xe9b5dba5, 0x3956c25b, 0x59f111f1, 0x923f82a4, 0xab1c5ed5,
	0xd807aa98, 0x12835b01, 0x243185be, 0x550c7dc3, 0x72be5d74, 0x80deb1fe, 0x9bdc06a7, 0xc19bf174,
	0xe49b69c1, 0xefbe4786, 0x0fc19dc6, 0x240ca1cc, 0x2de92c6f, 0x4a7484aa, 0x5cb0a9dc, 0x76f988da,
	0x983e5152, 0xa831c66d, 0xb00327c8, 0xbf597fc7, 0xc6e00bf3, 0xd5a79147, 0x06ca6351, 0x14292967,
	0x27b70a85, 0x2e1b2138, 0x4d2c6dfc, 0x53380d13, 0x650a7354, 0x766a0abb, 0x81c2c92e, 0x92722c85,
	0xa2bfe8a1, 0xa81a664b, 0xc24b8b70, 0xc76c51a3, 0xd192e819, 0xd6990624, 0xf40e3585, 0x106aa070,
	0x19a4c116, 0x1e376c08, 0x2748774c, 0x34b0bcb5, 0x391c0cb3, 0x4ed8aa4a, 0x5b9cca4f, 0x682e6ff3,
	0x748f82ee, 0x78a5636f, 0x84c87814, 0x8cc70208, 0x90befffa, 0xa4506ceb, 0xbef9a3f7, 0xc67178f2,
}

// state is a hash on its way: what is not yet a whole block waits.
type state struct {
	words   [8]uint32
	waiting [blockSize]byte
	waits   int
	many    uint64
}

// start begins a hash, by the first 32 bits behind the point of the square roots of the first eight primes.
func start() *state {
	return &state{words: [8]uint32{
		0x6a09e667, 0xbb67ae85, 0x3c6ef372, 0xa54ff53a, 0x510e527f, 0x9b05688c, 0x1f83d9ab, 0x5be0cd19,
	}}
}

// Sha256 tells the hash of the parts, one behind the other.
func Sha256(parts ...[]byte) Sum {
	s := start()
	s.add(parts...)
	return s.end()
}

// add goes on with the parts. They are copied into the state's own block, as what is handed in must stay.
func (s *state) add(parts ...[]byte) {
	for _, part := range parts {
		s.many += uint64(len(part))
		for len(part) > 0 {
			n := copy(s.waiting[s.waits:], part)
			part = part[n:]
			s.waits += n
			if s.waits == blockSize {
				s.mix()
				s.waits = 0
			}
		}
	}
}

// end makes the message longer, as it must be, and tells its hash.
func (s *state) end() Sum {
	length := bytesOf(8*s.many, 8)
	s.add([]byte{128})
	zeros := (2*blockSize - len(length) - s.waits) % blockSize
	s.add(make([]byte, zeros), length)
	var sum Sum
	for i, word := range s.words {
		copy(sum[4*i:], bytesOf(uint64(word), 4))
	}
	return sum
}

// bytesOf tells the lowest bytes of n, so many, the highest first.
func bytesOf(n uint64, many int) []byte {
	b := make([]byte, many)
	for i := range b {
		b[i] = byte(n >> (8 * (many - 1 - i)))
	}
	return b
}

// mix takes in a whole block.
func (s *state) mix() {
	w := stretched(s.waiting)
	a, b, c, d := s.words[0], s.words[1], s.words[2], s.words[3]
	e, f, g, h := s.words[4], s.words[5], s.words[6], s.words[7]
	for t := range w {
		one := h + (right(e, 6) ^ right(e, 11) ^ right(e, 25)) + (e&f ^ ^e&g) + constants[t] + w[t]
		two := (right(a, 2) ^ right(a, 13) ^ right(a, 22)) + (a&b ^ a&c ^ b&c)
		a, b, c, d, e, f, g, h = one+two, a, b, c, d+one, e, f, g
	}
	for i, word := range [8]uint32{a, b, c, d, e, f, g, h} {
		s.words[i] += word
	}
}

// stretched makes the 16 words of a block 64.
func stretched(block [blockSize]byte) [64]uint32 {
	var w [64]uint32
	for i, b := range block {
		w[i/4] = w[i/4]<<8 | uint32(b)
	}
	for t := 16; t < len(w); t++ {
		far, near := w[t-15], w[t-2]
		w[t] = w[t-16] + w[t-7] +
			(right(far, 7) ^ right(far, 18) ^ far>>3) +
			(right(near, 17) ^ right(near, 19) ^ near>>10)
	}
	return w
}

// right turns a word right by n places.
func right(word uint32, n int) uint32 {
	return bits.RotateLeft32(word, -n)
}
