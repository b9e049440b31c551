package frame_test

import (
	"bytes"
	"encoding/binary"
	"hash/crc32"
	"math"
	"testing"

	"longwire/api"
	"longwire/frame"
)

// checked tells bytes with their check behind them.
func checked(b []byte) []byte {
	return binary.BigEndian.AppendUint32(bytes.Clone(b), crc32.ChecksumIEEE(b))
}

// wantedDatagram tells a datagram, made from the words of the chapter alone, whether the frame may be or not.
func wantedDatagram(f frame.Frame, tag uint64) []byte {
	return checked(binary.BigEndian.AppendUint64(wantedSigned(f), tag))
}

// tags tells some tags.
func tags() []uint64 {
	return []uint64{0, 1, 0x0102030405060708, 1 << 63, math.MaxUint64}
}

// encoded tells a datagram, which must be OK.
func encoded(t *testing.T, f frame.Frame, tag uint64) []byte {
	t.Helper()
	b, e := frame.Encode(f, tag)
	if e != api.OK {
		t.Fatalf("%v: %d, want OK", f, e)
	}
	return b
}

// wantRead asks that a frame and a tag are read of b.
func wantRead(t *testing.T, b []byte, f frame.Frame, tag uint64) {
	t.Helper()
	g, n, e := frame.Decode(b)
	if e != api.OK || n != tag || !same(f, g) {
		t.Errorf("%v, %x, %d, want %v, %x, OK", g, n, e, f, tag)
	}
}

// wantRefused asks that b is refused with an error, and that nothing else is answered.
func wantRefused(t *testing.T, name string, b []byte, want api.Errno) {
	t.Helper()
	f, tag, e := frame.Decode(b)
	if e != want || tag != 0 || f.Payload != nil || !same(f, frame.Frame{}) {
		t.Errorf("%s: %v, %x, %d, want nothing, 0, %d", name, f, tag, e, want)
	}
}

// P4.2: a datagram, byte by byte.
func TestEncodeBytes(t *testing.T) {
	got := encoded(t, frame.Frame{Kind: frame.Ack, Session: 7, Epoch: 1, Ack: 5}, 0x0102030405060708)
	want := []byte{4, 0, 0, 0, 7, 0, 0, 0, 1, 0, 0, 0, 0, 0, 0, 0, 5, 0, 0, 0, 0, 0, 0, 1, 2, 3, 4, 5, 6, 7, 8}
	if !bytes.Equal(got[:31], want) || !bytes.Equal(got, checked(want)) {
		t.Errorf("%x, want %x with its check", got, want)
	}
}

// P4.2: frames of all kinds, with tags from 0 to the highest.
func TestEncode(t *testing.T) {
	for _, f := range goodFrames() {
		for _, tag := range tags() {
			got := encoded(t, f, tag)
			if !bytes.Equal(got, wantedDatagram(f, tag)) {
				t.Errorf("%v, %x: %x", f, tag, got)
			}
			if len(got) != frame.Least+len(f.Payload) || len(got) > api.MaxGram {
				t.Errorf("%v: %d bytes", f, len(got))
			}
			if !bytes.HasPrefix(got, f.Signed()) {
				t.Errorf("%v: what is signed is not ahead", f)
			}
		}
	}
}

// P4.2: a frame that may not be has no datagram.
func TestEncodeOfWhatMayNotBe(t *testing.T) {
	bad := append(badFrames(), frame.Frame{Kind: frame.Data, Payload: make([]byte, 65536)})
	for _, f := range bad {
		for _, tag := range tags() {
			if b, e := frame.Encode(f, tag); len(b) != 0 || e != api.ErrArg {
				t.Errorf("kind %d: %x, %d, want nothing, ErrArg", f.Kind, b, e)
			}
		}
	}
}

// P4.2, P4.3: a frame and a tag are read of their datagram, and laid they are just that one.
func TestThereAndBack(t *testing.T) {
	for _, f := range goodFrames() {
		for _, tag := range tags() {
			b := encoded(t, f, tag)
			wantRead(t, b, f, tag)
			wantRead(t, wantedDatagram(f, tag), f, tag)
			g, n, _ := frame.Decode(b)
			if !bytes.Equal(encoded(t, g, n), b) {
				t.Errorf("%v: what was read has another datagram", f)
			}
		}
	}
}

// P4.3: payloads of all lengths that may be.
func TestThereAndBackOfLengths(t *testing.T) {
	for many := range api.MaxData + 1 {
		f := frame.Frame{Kind: frame.Data, Number: uint32(many), Payload: filled(many, uint32(many))}
		wantRead(t, encoded(t, f, uint64(many)), f, uint64(many))
	}
}

// P4.2: what has less than 35 bytes is short, whatever is in it, a right check too.
func TestShort(t *testing.T) {
	wantRefused(t, "nil", nil, api.ErrShort)
	for many := range frame.Least {
		wantRefused(t, "bytes 0", make([]byte, many), api.ErrShort)
		wantRefused(t, "bytes", filled(many, uint32(many)), api.ErrShort)
		wantRefused(t, "bytes 255", bytes.Repeat([]byte{255}, many), api.ErrShort)
		if many >= 4 {
			wantRefused(t, "with a right check", checked(filled(many-4, 3)), api.ErrShort)
		}
	}
}

// P4.2: 35 and 36 bytes.
func TestLeast(t *testing.T) {
	f := frame.Frame{Kind: frame.Data, Session: 1, Epoch: 2, Number: 3}
	b := encoded(t, f, 9)
	if len(b) != 35 {
		t.Fatalf("%d bytes, want 35", len(b))
	}
	wantRead(t, b, f, 9)
	wantRefused(t, "35 bytes 0", make([]byte, 35), api.ErrCheck)
	wantRefused(t, "36 bytes 0", make([]byte, 36), api.ErrForm)
	f.Payload = []byte{8}
	b = encoded(t, f, 9)
	if len(b) != 36 {
		t.Fatalf("%d bytes, want 36", len(b))
	}
	wantRead(t, b, f, 9)
}

// P4.2, P4.4: cut short at each place: it is not all there, even with a right check at its end.
func TestCutShort(t *testing.T) {
	for _, f := range goodFrames() {
		b := encoded(t, f, 0x1122334455667788)
		for many := range b {
			wantRefused(t, "cut", b[:many], api.ErrShort)
			if many+4 < len(b) {
				wantRefused(t, "cut, with a right check", checked(b[:many]), api.ErrShort)
			}
		}
	}
}

// P4.2, P4.4: with bytes more, even with a right check at its end.
func TestByteMore(t *testing.T) {
	for _, f := range goodFrames() {
		b := encoded(t, f, 5)
		for more := range 256 {
			wantRefused(t, "a byte more", append(bytes.Clone(b), byte(more)), api.ErrForm)
		}
		wantRefused(t, "a check more", checked(b), api.ErrForm)
		wantRefused(t, "a byte more, with a right check", checked(append(b[:len(b)-4:len(b)-4], 0)), api.ErrForm)
		wantRefused(t, "twice", append(bytes.Clone(b), b...), api.ErrForm)
		wantRefused(t, "very long", append(bytes.Clone(b), make([]byte, 1<<20)...), api.ErrForm)
	}
}

// P4.4: each bit turned.
func TestBitTurned(t *testing.T) {
	for _, f := range goodFrames() {
		b := encoded(t, f, 0x8000000000000001)
		was := bytes.Clone(b)
		for bit := range 8 * len(b) {
			b[bit/8] ^= 1 << (bit % 8)
			want := api.ErrCheck
			if place := bit / 8; place == 21 || place == 22 {
				if length := int(b[21])<<8 | int(b[22]); length > len(f.Payload) {
					want = api.ErrShort
				} else {
					want = api.ErrForm
				}
			}
			wantRefused(t, "a bit turned", b, want)
			b[bit/8] ^= 1 << (bit % 8)
		}
		if !bytes.Equal(b, was) {
			t.Fatal("the datagram was changed")
		}
	}
}

// P4.2: a payload's length that is more or less than what is there, with a right check.
func TestPayloadLength(t *testing.T) {
	for _, there := range []int{0, 1, 10, 256} {
		f := frame.Frame{Kind: frame.Data, Session: 1, Payload: filled(there, 9)}
		for _, length := range []int{0, 1, 9, 10, 11, 255, 256, 257, 1000, 65535} {
			b := wantedDatagram(f, 77)
			b[21], b[22] = byte(length>>8), byte(length)
			b = checked(b[:len(b)-4])
			if length == there {
				wantRead(t, b, f, 77)
			} else if length > there {
				wantRefused(t, "more", b, api.ErrShort)
			} else {
				wantRefused(t, "less", b, api.ErrForm)
			}
		}
	}
}

// P4.2: a right check over a frame that may not be.
func TestFrameThatMayNotBe(t *testing.T) {
	for _, f := range badFrames() {
		for _, tag := range tags() {
			wantRefused(t, "may not be", wantedDatagram(f, tag), api.ErrForm)
		}
	}
}

// P4.2: the errors in their order: what is short, then what is left, then the check, then the frame.
func TestOrderOfErrors(t *testing.T) {
	for _, f := range append(badFrames(), goodFrames()...) {
		b := wantedDatagram(f, 3)
		wrong := bytes.Clone(b)
		wrong[len(wrong)-1] ^= 1
		wantRefused(t, "short, and a wrong check", wrong[:len(wrong)-2], api.ErrShort)
		wantRefused(t, "bytes left, and a wrong check", append(bytes.Clone(wrong), 0), api.ErrForm)
		wantRefused(t, "a wrong check", wrong, api.ErrCheck)
		if f.May() {
			wantRead(t, b, f, 3)
		} else {
			wantRefused(t, "may not be", b, api.ErrForm)
		}
	}
}

// P4.2: the check is of all that is ahead of it: no other than that one is taken.
func TestOtherChecks(t *testing.T) {
	f := frame.Frame{Kind: frame.Data, Session: 1, Epoch: 1, Payload: []byte("abc")}
	b := encoded(t, f, 0x0102030405060708)
	front := b[:len(b)-4]
	for _, other := range [][]byte{front[:len(front)-8], front[1:], nil, b} {
		wrong := binary.BigEndian.AppendUint32(bytes.Clone(front), crc32.ChecksumIEEE(other))
		wantRefused(t, "another check", wrong, api.ErrCheck)
	}
	low := binary.LittleEndian.AppendUint32(bytes.Clone(front), crc32.ChecksumIEEE(front))
	wantRefused(t, "the lowest byte first", low, api.ErrCheck)
}

// P4.2: the tag is read as it was, also one that is no key's, and all its bits are there.
func TestTags(t *testing.T) {
	f := frame.Frame{Kind: frame.Refuse, Session: 4, Payload: []byte{1}}
	for bit := range 64 {
		wantRead(t, encoded(t, f, 1<<bit), f, 1<<bit)
	}
}
