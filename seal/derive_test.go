package seal_test

import (
	"bytes"
	"crypto/hmac"
	"crypto/sha256"
	"encoding/binary"
	"encoding/hex"
	"strings"
	"testing"

	"longwire/api"
	"longwire/hash"
	"longwire/seal"
)

// filled tells bytes that are unlike each other, without any chance.
func filled(many int, seed uint32) []byte {
	b := make([]byte, many)
	for i := range b {
		seed = seed*1664525 + 1013904223
		b[i] = byte(seed >> 24)
	}
	return b
}

// signed tells the HMAC that the library tells.
func signed(key, message []byte) []byte {
	m := hmac.New(sha256.New, key)
	m.Write(message)
	return m.Sum(nil)
}

// wantedKey tells the key of a secret, a label and parts, made from the words of the chapter alone.
func wantedKey(secret []byte, label string, parts ...[]byte) seal.Key {
	message := binary.BigEndian.AppendUint16(nil, uint16(len(label)))
	message = append(message, label...)
	for _, part := range parts {
		message = binary.BigEndian.AppendUint32(message, uint32(len(part)))
		message = append(message, part...)
	}
	return seal.Key(signed(secret, message))
}

// derived tells a key, which must be OK.
func derived(t *testing.T, secret []byte, label string, parts ...[]byte) seal.Key {
	t.Helper()
	k, e := seal.Derive(secret, label, parts...)
	if e != api.OK {
		t.Fatalf("Derive: %d, want OK", e)
	}
	return k
}

// wantNoKey asks that there is an ErrArg, and no key.
func wantNoKey(t *testing.T, name string, k seal.Key, e api.Errno) {
	t.Helper()
	if e != api.ErrArg || k != (seal.Key{}) {
		t.Errorf("%s: %x, %d, want no key, ErrArg", name, k, e)
	}
}

// wantKey holds a key against one in hex.
func wantKey(t *testing.T, name string, got seal.Key, want string) {
	t.Helper()
	if hex.EncodeToString(got[:]) != want {
		t.Errorf("%s: %x, want %s", name, got, want)
	}
}

// P3.1: the chapter's example.
func TestDeriveExample(t *testing.T) {
	got := derived(t, []byte("key"), "hello")
	want := seal.Key(hash.Hmac([]byte("key"), []byte{0, 5, 'h', 'e', 'l', 'l', 'o'}))
	if got != want {
		t.Errorf("%x, want %x", got, want)
	}
}

// P3.1: keys that are known.
func TestDeriveKnown(t *testing.T) {
	secret := []byte("key")
	wantKey(t, "hello", derived(t, secret, "hello"), "88357cb820f884c382e07e95d69c2b22e8c53c6e993aef89830927cef18d8376")
	wantKey(t, "no label", derived(t, secret, ""), "9f62ed92c0d398dede3f0b9f0285c7d89ef7a006a8e82032a179fb73bc9e6812")
	wantKey(t, "three parts", derived(t, secret, "l", []byte("ab"), nil, []byte("cde")), "57d0b6e4db4a25205dc3ae42c40806f42ebfbbb1f72737ded10aeaa703f1bbd9")
	wantKey(t, "one part", derived(t, secret, "l", []byte("abcde")), "db66fc4b6946f7adc6f5ec4dfa6cae72a2d0f971ba5f9f9d8676ab7858865639")
	long := bytes.Repeat([]byte("k"), 64)
	wantKey(t, "a part of 300", derived(t, long, "l", bytes.Repeat([]byte("x"), 300)), "2c64c6d142be7b6f0adf42e5144b409c1d2a68d2a05d227b0871f03d65d6db3c")
}

// P3.1: a key has 32 bytes.
func TestKeySize(t *testing.T) {
	if many := len(seal.Key{}); many != 32 {
		t.Errorf("a key of %d bytes", many)
	}
}

// P3.1: secrets of every length that may be, and of those that may not.
func TestDeriveSecrets(t *testing.T) {
	for many := range 70 {
		secret := filled(many, 3)
		k, e := seal.Derive(secret, "label", []byte("part"), nil)
		if many == 0 || many > 64 {
			wantNoKey(t, "a secret that may not be", k, e)
		} else if want := wantedKey(secret, "label", []byte("part"), nil); k != want || e != api.OK {
			t.Errorf("a secret of %d: %x, %d, want %x", many, k, e, want)
		}
	}
	for _, many := range []int{1, 2, 64} {
		if zeros := make([]byte, many); derived(t, zeros, "a") != wantedKey(zeros, "a") {
			t.Errorf("a secret of %d zeros: another key", many)
		}
	}
	for _, secret := range [][]byte{nil, {}, filled(70, 3)[:0], filled(128, 3), filled(256, 3), filled(257, 3), filled(65537, 3)} {
		k, e := seal.Derive(secret, "label")
		wantNoKey(t, "a secret that may not be", k, e)
		k, e = seal.Derive(secret, "", nil, []byte("part"))
		wantNoKey(t, "a secret that may not be", k, e)
	}
}

// P3.1: labels of many lengths, the greatest that may be among them, and of those that may not.
func TestDeriveLabels(t *testing.T) {
	secret := []byte("key")
	for _, many := range []int{0, 1, 5, 55, 64, 255, 256, 257, 65534, 65535} {
		label := string(filled(many, 11))
		for _, parts := range [][][]byte{nil, {nil}, {[]byte("part")}} {
			if got, want := derived(t, secret, label, parts...), wantedKey(secret, label, parts...); got != want {
				t.Errorf("a label of %d, %d parts: %x, want %x", many, len(parts), got, want)
			}
		}
	}
	for _, many := range []int{65536, 65537, 65541, 1 << 17} {
		label := strings.Repeat("l", many)
		k, e := seal.Derive(secret, label)
		wantNoKey(t, "a long label", k, e)
		k, e = seal.Derive(secret, label, nil, []byte("part"))
		wantNoKey(t, "a long label and parts", k, e)
		k, e = seal.Derive(nil, label)
		wantNoKey(t, "a long label and no secret", k, e)
	}
}

// P3.1: a label is bytes, whatever they are.
func TestDeriveLabelBytes(t *testing.T) {
	for _, label := range []string{"\x00", "\xff\xfe", "a\x00b", "\x00\x05hello", "schlüssel", "\n"} {
		if got, want := derived(t, []byte("key"), label), wantedKey([]byte("key"), label); got != want {
			t.Errorf("%q: %x, want %x", label, got, want)
		}
	}
}

// P3.1: no parts at all, empty parts and nil parts: an empty part counts, a nil one is an empty one.
func TestDeriveEmptyParts(t *testing.T) {
	secret, none := []byte("key"), wantedKey([]byte("key"), "l")
	if derived(t, secret, "l") != none || derived(t, secret, "l", nil...) != none || derived(t, secret, "l", [][]byte{}...) != none {
		t.Error("no parts at all: another key")
	}
	seen := map[seal.Key]int{none: 0}
	for many := 1; many <= 5; many++ {
		empty, nils := make([][]byte, many), make([][]byte, many)
		for i := range empty {
			empty[i] = []byte{}
		}
		got := derived(t, secret, "l", empty...)
		if got != wantedKey(secret, "l", nils...) || got != derived(t, secret, "l", nils...) {
			t.Errorf("%d empty parts: another key", many)
		}
		if was, there := seen[got]; there {
			t.Errorf("%d empty parts have the key of %d", many, was)
		}
		seen[got] = many
	}
}

// P3.1: parts of more than one byte's, and of more than two bytes', lengths.
func TestDeriveLongParts(t *testing.T) {
	secret := []byte("key")
	for _, many := range []int{1, 63, 64, 255, 256, 257, 300, 65535, 65536, 65537, 1<<24 + 1} {
		part := filled(many, 7)
		if got, want := derived(t, secret, "l", part), wantedKey(secret, "l", part); got != want {
			t.Errorf("a part of %d: %x, want %x", many, got, want)
		}
		if got, want := derived(t, secret, "l", []byte("a"), part, nil), wantedKey(secret, "l", []byte("a"), part, nil); got != want {
			t.Errorf("a part of %d between others: %x, want %x", many, got, want)
		}
	}
}

// P3.1: very many parts.
func TestDeriveManyParts(t *testing.T) {
	parts := make([][]byte, 3000)
	for i := range parts {
		parts[i] = filled(i%5, uint32(i))
	}
	if derived(t, []byte("key"), "l", parts...) != wantedKey([]byte("key"), "l", parts...) {
		t.Error("another key")
	}
}

// apart keeps keys, with a name each, and tells of those that are there already.
type apart map[seal.Key]string

func (a apart) add(t *testing.T, name string, k seal.Key) {
	t.Helper()
	if was, there := a[k]; there {
		t.Errorf("%s has the key of %s", name, was)
	}
	a[k] = name
}

// P3.3: bytes that are parted otherwise have another key, also where a part, or the label, is what lays another's length.
func TestPartingsApart(t *testing.T) {
	secret, all, seen := []byte("key"), []byte("\x00\x00\x00\x01a\x00\x00\x00\x00"), apart{}
	seen.add(t, "no part", derived(t, secret, "l"))
	seen.add(t, "one part", derived(t, secret, "l", all))
	for i := range len(all) + 1 {
		for j := i; j <= len(all); j++ {
			seen.add(t, "three parts", derived(t, secret, "l", all[:i], all[i:j], all[j:]))
		}
		seen.add(t, "two parts", derived(t, secret, "l", all[:i], all[i:]))
		if i > 0 {
			seen.add(t, "a label and a part", derived(t, secret, "l"+string(all[:i]), all[i:]))
			seen.add(t, "a label", derived(t, secret, "l"+string(all[:i])))
		}
	}
	seen.add(t, "no label", derived(t, secret, "", []byte("l"), all))
	seen.add(t, "parts in another order", derived(t, secret, "l", all[4:], all[:4]))
}

// P3.3: unlike labels, parts and secrets, a bit each, have unlike keys.
func TestBitsApart(t *testing.T) {
	secret, label, part := filled(64, 1), filled(20, 2), filled(300, 3)
	seen := apart{}
	seen.add(t, "the first one", derived(t, secret, string(label), part))
	for _, b := range [][]byte{secret, label, part} {
		for bit := range 8 * len(b) {
			b[bit/8] ^= 1 << (bit % 8)
			seen.add(t, "a bit turned", derived(t, secret, string(label), part))
			b[bit/8] ^= 1 << (bit % 8)
		}
	}
}

// P3.1: the tags that are known, of no bytes and of some, the highest byte first.
func TestTagKnown(t *testing.T) {
	hello := derived(t, []byte("key"), "hello")
	for i, c := range []struct{ got, want uint64 }{
		{seal.Key{}.Tag(nil), 0xb613679a0814d9ec},
		{seal.Key{}.Tag([]byte{}), 0xb613679a0814d9ec},
		{hello.Tag(nil), 0x713e331e7934c009},
		{hello.Tag([]byte{}), 0x713e331e7934c009},
		{hello.Tag([]byte("abc")), 0xe42d24b0039687c2},
	} {
		if c.got != c.want {
			t.Errorf("tag %d: %016x, want %016x", i, c.got, c.want)
		}
	}
}

// P3.1: the tag is the number of the first eight bytes of the HMAC.
func TestTagOfLengths(t *testing.T) {
	for i, many := range []int{0, 1, 2, 7, 8, 31, 32, 55, 56, 63, 64, 65, 255, 256, 600, 70000} {
		k, b := seal.Key(filled(32, uint32(i))), filled(many, 5)
		if got, want := k.Tag(b), binary.BigEndian.Uint64(signed(k[:], b)); got != want {
			t.Errorf("of %d bytes: %016x, want %016x", many, got, want)
		}
		sum := hash.Hmac(k[:], b)
		for place, got := range binary.BigEndian.AppendUint64(nil, k.Tag(b)) {
			if got != sum[place] {
				t.Errorf("of %d bytes: byte %d is %02x, want %02x", many, place, got, sum[place])
			}
		}
	}
}

// P3.1: a bit turned in the key or in the bytes, and a byte behind them, have another tag.
func TestTagsApart(t *testing.T) {
	k, b := seal.Key(filled(32, 8)), filled(100, 9)
	seen := map[uint64]bool{k.Tag(b): true}
	see := func(tag uint64) {
		t.Helper()
		if seen[tag] {
			t.Errorf("%016x is there already", tag)
		}
		seen[tag] = true
	}
	see(k.Tag(append(bytes.Clone(b), 0)))
	see(k.Tag(b[:99]))
	see(k.Tag(nil))
	for bit := range 8 * len(b) {
		b[bit/8] ^= 1 << (bit % 8)
		see(k.Tag(b))
		b[bit/8] ^= 1 << (bit % 8)
	}
	for bit := range 8 * len(k) {
		k[bit/8] ^= 1 << (bit % 8)
		see(k.Tag(b))
		k[bit/8] ^= 1 << (bit % 8)
	}
}
