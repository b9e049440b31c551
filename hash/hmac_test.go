package hash_test

import (
	"bytes"
	"crypto/hmac"
	"crypto/sha256"
	"testing"

	"longwire/hash"
)

// wanted tells the HMAC that the library tells.
func wanted(key, message []byte) hash.Sum {
	m := hmac.New(sha256.New, key)
	m.Write(message)
	return hash.Sum(m.Sum(nil))
}

// keyLengths are lengths of keys at, and beside, the ends of blocks, and that of a hash.
func keyLengths() []int {
	return []int{0, 1, 31, 32, 33, 63, 64, 65, 66, 100, 127, 128, 129, 131, 300}
}

// P2.2: the HMACs of known keys and messages, those of the chapter's example and of RFC 4231 among them.
func TestHmacKnown(t *testing.T) {
	rising := make([]byte, 25)
	for i := range rising {
		rising[i] = byte(i + 1)
	}
	long := bytes.Repeat([]byte{0xaa}, 131)
	for _, c := range []struct {
		key           []byte
		message, want string
	}{
		{[]byte("Jefe"), "what do ya want for nothing?", "5bdcc146 bf60754e 6a042426 089575c7 5a003f08 9d273983 9dec58b9 64ec3843"},
		{nil, "", "b613679a 0814d9ec 772f95d7 78c35fc5 ff1697c4 93715653 c6c71214 4292c5ad"},
		{[]byte{}, "", "b613679a 0814d9ec 772f95d7 78c35fc5 ff1697c4 93715653 c6c71214 4292c5ad"},
		{[]byte("key"), "The quick brown fox jumps over the lazy dog", "f7bc83f4 30538424 b13298e6 aa6fb143 ef4d59a1 49461759 97479dbc 2d1a3cd8"},
		{bytes.Repeat([]byte{11}, 20), "Hi There", "b0344c61 d8db3853 5ca8afce af0bf12b 881dc200 c9833da7 26e9376c 2e32cff7"},
		{bytes.Repeat([]byte{0xaa}, 20), string(bytes.Repeat([]byte{0xdd}, 50)), "773ea91e 36800e46 854db8eb d09181a7 2959098b 3ef8c122 d9635514 ced565fe"},
		{rising, string(bytes.Repeat([]byte{0xcd}, 50)), "82558a38 9a443c0e a4cc8198 99f2083a 85f0faa3 e578f807 7a2e3ff4 6729665b"},
		{long, "Test Using Larger Than Block-Size Key - Hash Key First", "60e43159 1ee0b67f 0d8a26aa cbf5b77f 8e0bc621 3728c514 0546040f 0ee37f54"},
		{long, "This is a test using a larger than block-size key and a larger than block-size data. The key needs to be hashed before being used by the HMAC algorithm.", "9b09ffa7 1b942fcb 27635fbc d5b0e944 bfdc6364 4f071393 8a7f5153 5c3a35e2"},
	} {
		wantSum(t, "of "+c.message, hash.Hmac(c.key, []byte(c.message)), c.want)
	}
}

// P2.2: the HMAC of keys and messages of many lengths.
func TestHmacOfLengths(t *testing.T) {
	for _, keyMany := range keyLengths() {
		for _, many := range edges() {
			key, message := filled(keyMany, 21), filled(many, 22)
			if got, want := hash.Hmac(key, message), wanted(key, message); got != want {
				t.Errorf("key of %d, %d bytes: %x, want %x", keyMany, many, got, want)
			}
		}
	}
}

// P2.3: how the message is parted changes no HMAC either; no parts are an empty message.
func TestHmacParted(t *testing.T) {
	for _, keyMany := range keyLengths() {
		key := filled(keyMany, 31)
		empty := wanted(key, nil)
		for i, got := range []hash.Sum{hash.Hmac(key), hash.Hmac(key, nil...), hash.Hmac(key, nil, nil), hash.Hmac(key, []byte{}), hash.Hmac(key, [][]byte{}...)} {
			if got != empty {
				t.Errorf("key of %d, empty message %d: %x, want %x", keyMany, i, got, empty)
			}
		}
	}
	for _, many := range edges() {
		key, message := filled(many%100, 32), filled(many, 33)
		want := wanted(key, message)
		for i, parts := range partings(message) {
			if got := hash.Hmac(key, parts...); got != want {
				t.Errorf("%d bytes, parting %d: %x, want %x", many, i, got, want)
			}
		}
	}
}

// P2.3: what ends the key is not a part of the message.
func TestHmacKeyIsNoPart(t *testing.T) {
	if hash.Hmac([]byte("ab"), []byte("c")) == hash.Hmac([]byte("a"), []byte("bc")) {
		t.Error("the key's end is not seen")
	}
	key := filled(64, 4)
	if hash.Hmac(key, []byte("c")) == hash.Hmac(key[:63], key[63:], []byte("c")) {
		t.Error("the end of a key of a block is not seen")
	}
}

// endedBy9 tells a key that does not end in a byte 0.
func endedBy9(many int) []byte {
	key := filled(many, 42)
	if many > 0 {
		key[many-1] = 9
	}
	return key
}

// P2.4: bytes 0 behind a key change nothing up to a block, and then they do.
func TestHmacZerosBehindKey(t *testing.T) {
	message := filled(77, 41)
	for _, many := range []int{0, 1, 32, 62, 63, 64} {
		key := endedBy9(many)
		want := hash.Hmac(key, message)
		for zeros := range 70 {
			longer := append(bytes.Clone(key), make([]byte, zeros)...)
			if same := hash.Hmac(longer, message) == want; same != (len(longer) <= 64) {
				t.Errorf("key of %d, %d zeros behind: the same is %v", many, zeros, same)
			}
		}
		if len(key) > 0 && len(key) < 64 && hash.Hmac(append([]byte{0}, key...), message) == want {
			t.Errorf("key of %d: a zero ahead is not seen", many)
		}
	}
	if hash.Hmac(nil, message) != hash.Hmac(make([]byte, 64), message) {
		t.Error("no key, and one of 64 zeros, are not the same")
	}
}

// P2.4: a key of more than a block is the same as its hash, and as that with bytes 0 behind; one of a block is not.
func TestHmacLongKeyIsItsHash(t *testing.T) {
	message := filled(90, 51)
	for _, many := range keyLengths() {
		key := filled(many, 52)
		h := hash.Sha256(key)
		want := hash.Hmac(key, message)
		if same := hash.Hmac(h[:], message) == want; same != (many > 64) {
			t.Errorf("key of %d: the same as its hash is %v", many, same)
		}
		if same := hash.Hmac(append(h[:], 0, 0, 0), message) == want; same != (many > 64) {
			t.Errorf("key of %d: the same as its hash and zeros is %v", many, same)
		}
	}
}

// P2.4: keys that are not made the same are not the same.
func TestHmacKeysApart(t *testing.T) {
	for _, many := range keyLengths() {
		key := filled(many, 61)
		want := hash.Hmac(key, []byte("m"))
		for i := range key {
			key[i] ^= 1 << (i % 8)
			if hash.Hmac(key, []byte("m")) == want {
				t.Errorf("key of %d: byte %d is not seen", many, i)
			}
			key[i] ^= 1 << (i % 8)
		}
	}
}
