package hash_test

import (
	"bytes"
	"crypto/sha256"
	"encoding/hex"
	"strings"
	"testing"

	"longwire/hash"
)

// edges are lengths at, and beside, the ends of blocks, and of what has room for a length behind it.
func edges() []int {
	return []int{0, 1, 54, 55, 56, 57, 62, 63, 64, 65, 66, 111, 118, 119, 120, 121, 127, 128, 129, 183, 184, 191, 192, 193, 1000}
}

// filled tells bytes that are unlike each other, without any chance.
func filled(many int, seed uint32) []byte {
	b := make([]byte, many)
	for i := range b {
		seed = seed*1664525 + 1013904223
		b[i] = byte(seed >> 24)
	}
	return b
}

// wantSum holds a hash against one in hex, blanks between.
func wantSum(t *testing.T, name string, got hash.Sum, want string) {
	t.Helper()
	if hex.EncodeToString(got[:]) != strings.ReplaceAll(want, " ", "") {
		t.Errorf("%s: %x, want %s", name, got, want)
	}
}

// P2.1: the hashes of known messages, that of the chapter's example among them.
func TestShaKnown(t *testing.T) {
	for _, c := range []struct{ message, want string }{
		{"abc", "ba7816bf 8f01cfea 414140de 5dae2223 b00361a3 96177a9c b410ff61 f20015ad"},
		{"", "e3b0c442 98fc1c14 9afbf4c8 996fb924 27ae41e4 649b934c a495991b 7852b855"},
		{"\xbd", "68325720 aabd7c82 f30f554b 313d0570 c95accbb 7dc4b5aa e11204c0 8ffe732b"},
		{"\xc9\x8c\x8e\x55", "7abc22c0 ae5af26c e93dbb94 433a0e0b 2e119d01 4f8e7f65 bd56c61c cccd9504"},
		{"abcdbcdecdefdefgefghfghighijhijkijkljklmklmnlmnomnopnopq", "248d6a61 d20638b8 e5c02693 0c3e6039 a33ce459 64ff2167 f6ecedd4 19db06c1"},
		{"The quick brown fox jumps over the lazy dog", "d7a8fbb3 07d78094 69ca9abc b0082e4f 8d5651e4 6d3cdb76 2d02d0bf 37c9e592"},
		{strings.Repeat("\x00", 55), "02779466 cdec1638 11d07881 5c633f21 90141308 1449002f 24aa3e80 f0b88ef7"},
		{strings.Repeat("\x00", 56), "d4817aa5 497628e7 c77e6b60 6107042b bba31308 88c5f47a 375e6179 be789fbb"},
		{strings.Repeat("\x00", 64), "f5a5fd42 d16a2030 2798ef6e d309979b 43003d23 20d9f0e8 ea9831a9 2759fb4b"},
		{strings.Repeat("a", 1000000), "cdc76e5c 9914fb92 81a1c7e2 84d73e67 f1809a48 a497200e 046d39cc c7112cd0"},
	} {
		wantSum(t, "of "+c.message[:min(len(c.message), 20)], hash.Sha256([]byte(c.message)), c.want)
	}
}

// P2.1: a hash has 32 bytes.
func TestSize(t *testing.T) {
	if hash.Size != 32 || len(hash.Sum{}) != 32 {
		t.Errorf("Size %d, Sum of %d bytes", hash.Size, len(hash.Sum{}))
	}
}

// P2.1: the hash of messages of every length, over some blocks' edges.
func TestShaOfEveryLength(t *testing.T) {
	for many := range 260 {
		for _, message := range [][]byte{filled(many, 5), make([]byte, many), bytes.Repeat([]byte{255}, many)} {
			if got, want := hash.Sha256(message), sha256.Sum256(message); got != want {
				t.Errorf("of %d bytes: %x, want %x", many, got, want)
			}
		}
	}
}

// P2.1: the length of a message of more than 2^16 bytes, and of more than 2^32 bits, is told whole.
func TestShaOfLong(t *testing.T) {
	message := filled(1<<20+7, 9)
	if got, want := hash.Sha256(message), sha256.Sum256(message); got != want {
		t.Errorf("%x, want %x", got, want)
	}
	if testing.Short() {
		return
	}
	const times = 513
	parts, other := make([][]byte, times), sha256.New()
	for i := range parts {
		parts[i] = message
		other.Write(message)
	}
	if got := hash.Sha256(parts...); !bytes.Equal(got[:], other.Sum(nil)) {
		t.Errorf("%x, want %x", got, other.Sum(nil))
	}
}

// P2.1: a bit turned, or a byte 0 or 128 behind it, makes another hash.
func TestShaTellsApart(t *testing.T) {
	for _, many := range edges() {
		message := filled(many, 3)
		want := hash.Sha256(message)
		for _, b := range []byte{0, 128} {
			if hash.Sha256(message, []byte{b}) == want {
				t.Errorf("%d bytes: a byte %d behind is not seen", many, b)
			}
		}
		for i := range message {
			message[i] ^= 1 << (i % 8)
			if hash.Sha256(message) == want {
				t.Errorf("%d bytes: byte %d is not seen", many, i)
			}
			message[i] ^= 1 << (i % 8)
		}
	}
}

// P2.1: what follows one after the other hangs on nothing that was asked before.
func TestShaIsOne(t *testing.T) {
	first := hash.Sha256([]byte("abc"))
	hash.Sha256(filled(100, 1), nil, filled(64, 2))
	hash.Hmac(filled(100, 1), filled(64, 2))
	if hash.Sha256([]byte("abc")) != first {
		t.Error("another hash")
	}
	first[0]++
	if hash.Sha256([]byte("abc")) == first {
		t.Error("what was told is shared")
	}
}

// partings parts a message in several ways.
func partings(message []byte) [][][]byte {
	many := len(message)
	l := [][][]byte{{message}, {nil, message}, {message, nil}, {{}, message, {}}, {nil, {}, message, {}, nil}}
	for _, at := range append(edges(), many/3, many/2) {
		if at <= many {
			front, back := message[:at], message[at:]
			l = append(l, [][]byte{front, back}, [][]byte{front, nil, back}, [][]byte{nil, front, {}, back, nil})
		}
	}
	for _, size := range []int{1, 3, 55, 56, 63, 64, 65} {
		var parts [][]byte
		for at := 0; at < many; at += size {
			parts = append(parts, message[at:min(at+size, many)], nil)
		}
		l = append(l, parts)
	}
	return l
}

// P2.3: how a message is parted changes nothing; no parts at all, empty ones and nil ones are an empty message.
func TestShaParted(t *testing.T) {
	empty := "e3b0c442 98fc1c14 9afbf4c8 996fb924 27ae41e4 649b934c a495991b 7852b855"
	wantSum(t, "of no parts", hash.Sha256(), empty)
	wantSum(t, "of no list", hash.Sha256([][]byte(nil)...), empty)
	wantSum(t, "of an empty list", hash.Sha256([][]byte{}...), empty)
	wantSum(t, "of a nil part", hash.Sha256(nil...), empty)
	wantSum(t, "of nil parts", hash.Sha256([]byte(nil), nil, nil), empty)
	wantSum(t, "of empty parts", hash.Sha256([]byte{}, []byte{}), empty)
	for _, many := range edges() {
		message := filled(many, 17)
		want := sha256.Sum256(message)
		for i, parts := range partings(message) {
			if got := hash.Sha256(parts...); got != want {
				t.Errorf("%d bytes, parting %d: %x, want %x", many, i, got, want)
			}
		}
	}
}

// P2.3: parts that are in another order are another message, and one part may stand twice.
func TestShaPartsOrder(t *testing.T) {
	a, b := filled(70, 1), filled(70, 2)
	if hash.Sha256(a, b) == hash.Sha256(b, a) {
		t.Error("the order is not seen")
	}
	if got, want := hash.Sha256(a, a, a), sha256.Sum256(bytes.Repeat(a, 3)); got != want {
		t.Errorf("%x, want %x", got, want)
	}
	if got, want := hash.Sha256(a, a[10:], a[:20]), sha256.Sum256(bytes.Join([][]byte{a, a[10:], a[:20]}, nil)); got != want {
		t.Errorf("%x, want %x", got, want)
	}
}
