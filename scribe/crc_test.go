package scribe_test

import (
	"bytes"
	"hash/crc32"
	"testing"

	"longwire/scribe"
)

// rows tells rows of several lengths, without any chance.
func rows() [][]byte {
	var l [][]byte
	seed := uint32(1)
	for _, many := range []int{1, 2, 3, 4, 5, 8, 13, 35, 64, 257, 600} {
		l = append(l, make([]byte, many), bytes.Repeat([]byte{255}, many))
		b := make([]byte, many)
		for i := range b {
			seed = seed*1664525 + 1013904223
			b[i] = byte(seed >> 24)
		}
		l = append(l, b)
	}
	return l
}

// P1.3: the check of known texts.
func TestCrcKnown(t *testing.T) {
	for s, want := range map[string]uint32{
		"":             0,
		"\x00":         0xd202ef8d,
		"\xff":         0xff000000,
		"a":            0xe8b7be43,
		"abc":          0x352441c2,
		"123456789":    0xcbf43926,
		"\x00\x00\x00": 0xff41d912,
		"The quick brown fox jumps over the lazy dog": 0x414fa339,
	} {
		if got := scribe.Crc([]byte(s)); got != want {
			t.Errorf("Crc(%q) = %08x, want %08x", s, got, want)
		}
	}
	if got := scribe.Crc(nil); got != 0 {
		t.Errorf("Crc(nil) = %08x", got)
	}
}

// P1.3: the check of rows is that of IEEE 802.3, and they stay as they are.
func TestCrcOfRows(t *testing.T) {
	for i, b := range rows() {
		was := bytes.Clone(b)
		if got, want := scribe.Crc(b), crc32.ChecksumIEEE(was); got != want {
			t.Errorf("row %d: %08x, want %08x", i, got, want)
		}
		if !bytes.Equal(b, was) {
			t.Errorf("row %d is changed", i)
		}
	}
}

// P1.5: each bit turned is found, and so are two bits that stand within 32.
func TestCrcFindsBits(t *testing.T) {
	for i, b := range rows() {
		want, bits := scribe.Crc(b), 8*len(b)
		for first := range bits {
			b[first/8] ^= 1 << (first % 8)
			if scribe.Crc(b) == want {
				t.Errorf("row %d: bit %d is not found", i, first)
			}
			if len(b) <= 35 {
				for second := first + 1; second < min(first+32, bits); second++ {
					b[second/8] ^= 1 << (second % 8)
					if scribe.Crc(b) == want {
						t.Errorf("row %d: bits %d and %d are not found", i, first, second)
					}
					b[second/8] ^= 1 << (second % 8)
				}
			}
			b[first/8] ^= 1 << (first % 8)
		}
	}
}

// P1.5: four bytes one behind the other that become others are found, at every bit where such 32 may begin.
func TestCrcFindsBursts(t *testing.T) {
	seed := uint32(7)
	for i, b := range rows() {
		want := scribe.Crc(b)
		for first := 0; first+32 <= 8*len(b); first++ {
			seed = seed*1664525 + 1013904223
			burst := max(seed, 1)
			turned := bytes.Clone(b)
			for k := range 32 {
				if burst>>k&1 == 1 {
					turned[(first+k)/8] ^= 1 << ((first + k) % 8)
				}
			}
			if scribe.Crc(turned) == want {
				t.Errorf("row %d: %08x at bit %d is not found", i, burst, first)
			}
		}
	}
}
