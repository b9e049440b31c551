package hash

// What each byte of the key is exclusive-or'ed with: ahead of the message, and ahead of the hash of both.
const (
	inner = 54
	outer = 92
)

// Hmac tells the HMAC of the key and of the parts, one behind the other.
func Hmac(key []byte, parts ...[]byte) Sum {
	block := blockOf(key)
	message := keyed(block, inner)
	message.add(parts...)
	h := message.end()
	whole := keyed(block, outer)
	whole.add(h[:])
	return whole.end()
}

// blockOf makes a key just a block.
func blockOf(key []byte) [blockSize]byte {
	var block [blockSize]byte
	if len(key) <= blockSize {
		copy(block[:], key)
		return block
	}
	h := Sha256(key)
	copy(block[:], h[:])
	return block
}

// keyed begins a hash with a key, each byte exclusive-or'ed.
func keyed(block [blockSize]byte, with byte) *state {
	for i := range block {
		block[i] ^= with
	}
	s := start()
	s.add(block[:])
	return s
}
