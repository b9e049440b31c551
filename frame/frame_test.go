package frame_test

import (
	"bytes"
	"encoding/binary"
	"encoding/hex"
	"math"
	"strings"
	"testing"

	"longwire/frame"
)

// filled tells bytes that are unlike each other, without any chance.
func filled(many int, seed uint32) []byte {
	b := make([]byte, many)
	for i := range b {
		seed = seed*1664525 + 1013904223
		b[i] = byte(seed >> 24)
	}
	return b
}

// wantedSigned tells what is signed, made from the words of the chapter alone.
func wantedSigned(f frame.Frame) []byte {
	b := []byte{f.Kind}
	for _, n := range []uint32{f.Session, f.Epoch, f.Number, f.Ack, f.Mask} {
		b = binary.BigEndian.AppendUint32(b, n)
	}
	b = binary.BigEndian.AppendUint16(b, uint16(len(f.Payload)))
	return append(b, f.Payload...)
}

// same tells whether two frames are the same; no payload is as nil.
func same(f, g frame.Frame) bool {
	return f.Kind == g.Kind && f.Session == g.Session && f.Epoch == g.Epoch && f.Number == g.Number &&
		f.Ack == g.Ack && f.Mask == g.Mask && bytes.Equal(f.Payload, g.Payload)
}

// wantMay asks that a frame may be, and is signed; or that it may not, and nothing is signed of it.
func wantMay(t *testing.T, name string, f frame.Frame, may bool) {
	t.Helper()
	if f.May() != may {
		t.Errorf("%s: may be: %t, want %t", name, f.May(), may)
	}
	want := []byte(nil)
	if may {
		want = wantedSigned(f)
	}
	if got := f.Signed(); !bytes.Equal(got, want) {
		t.Errorf("%s: signed %x, want %x", name, got, want)
	}
}

// goodFrames tells frames of all kinds that may be.
func goodFrames() []frame.Frame {
	const high = math.MaxUint32
	return []frame.Frame{
		{Kind: frame.Hello},
		{Kind: frame.Hello, Session: high, Epoch: high, Payload: filled(256, 1)},
		{Kind: frame.Welcome, Session: 7, Epoch: 1, Payload: filled(24, 2)},
		{Kind: frame.Welcome, Payload: []byte{}},
		{Kind: frame.Data},
		{Kind: frame.Data, Session: 0x01020304, Epoch: 0x05060708, Number: 0x090a0b0c, Ack: 0x0d0e0f10, Mask: 0x11121314, Payload: []byte("abc")},
		{Kind: frame.Data, Session: high, Epoch: high, Number: 1<<31 - 1, Ack: high, Mask: high, Payload: filled(256, 3)},
		{Kind: frame.Data, Number: 1, Payload: make([]byte, 255)},
		{Kind: frame.Ack},
		{Kind: frame.Ack, Session: 7, Epoch: 1, Ack: 5},
		{Kind: frame.Ack, Session: high, Epoch: high, Ack: high, Mask: high, Payload: []byte{}},
		{Kind: frame.Refuse, Session: 1 << 31, Payload: []byte{0}},
		{Kind: frame.Refuse, Epoch: 1 << 31, Payload: filled(256, 4)},
	}
}

// badFrames tells frames that may not be.
func badFrames() []frame.Frame {
	return []frame.Frame{
		{},
		{Kind: 6},
		{Kind: 255, Session: 7, Epoch: 1},
		{Kind: frame.Hello, Number: 1},
		{Kind: frame.Welcome, Ack: 1, Payload: []byte("a")},
		{Kind: frame.Refuse, Mask: 1},
		{Kind: frame.Data, Number: 1 << 31},
		{Kind: frame.Ack, Number: 1},
		{Kind: frame.Ack, Payload: []byte{0}},
		{Kind: frame.Hello, Payload: make([]byte, 257)},
		{Kind: frame.Data, Payload: filled(257, 5)},
		{Kind: frame.Data, Payload: filled(65535, 6)},
	}
}

// P4.1: the kinds' numbers, and the least of a datagram.
func TestNumbers(t *testing.T) {
	if frame.Hello != 1 || frame.Welcome != 2 || frame.Data != 3 || frame.Ack != 4 || frame.Refuse != 5 || frame.Least != 35 {
		t.Error("another number")
	}
}

// P4.1: the chapter's example.
func TestExample(t *testing.T) {
	f := frame.Frame{Kind: frame.Ack, Session: 7, Epoch: 1, Ack: 5}
	want := strings.ReplaceAll("04 00000007 00000001 00000000 00000005 00000000 0000", " ", "")
	if got := hex.EncodeToString(f.Signed()); got != want {
		t.Errorf("%s, want %s", got, want)
	}
}

// P4.1: what is signed, byte by byte.
func TestSignedBytes(t *testing.T) {
	f := frame.Frame{Kind: frame.Data, Session: 0x01020304, Epoch: 0x05060708, Number: 0x090a0b0c, Ack: 0x0d0e0f10, Mask: 0x11121314, Payload: []byte{0xaa, 0, 0xbb}}
	want := strings.ReplaceAll("03 01020304 05060708 090a0b0c 0d0e0f10 11121314 0003 aa00bb", " ", "")
	if got := hex.EncodeToString(f.Signed()); got != want {
		t.Errorf("%s, want %s", got, want)
	}
	long := frame.Frame{Kind: frame.Hello, Payload: filled(256, 7)}
	if got := long.Signed(); len(got) != 23+256 || got[21] != 1 || got[22] != 0 || !bytes.Equal(got[23:], long.Payload) {
		t.Errorf("%x", got)
	}
}

// P4.1: each of the 256 kinds, bare.
func TestKinds(t *testing.T) {
	for kind := range 256 {
		f := frame.Frame{Kind: byte(kind), Session: 7, Epoch: 1}
		wantMay(t, "kind "+hex.EncodeToString([]byte{f.Kind}), f, kind >= 1 && kind <= 5)
	}
}

// kindRule tells what a kind may have other than 0, and other than nothing.
type kindRule struct {
	kind                       byte
	number, ack, mask, payload bool
}

func kindRules() []kindRule {
	return []kindRule{
		{0, false, false, false, false},
		{frame.Hello, false, false, false, true},
		{frame.Welcome, false, false, false, true},
		{frame.Data, true, true, true, true},
		{frame.Ack, false, true, true, false},
		{frame.Refuse, false, false, false, true},
		{6, false, false, false, false},
		{255, false, false, false, false},
	}
}

// P4.1: for each kind whether number, ack, mask, and a payload may be there.
func TestWhatKindsMayHave(t *testing.T) {
	for _, k := range kindRules() {
		for _, n := range []uint32{1, 256, 1<<31 - 1} {
			wantMay(t, "number", frame.Frame{Kind: k.kind, Number: n}, k.number)
		}
		for _, n := range []uint32{1, 256, 1 << 31, math.MaxUint32} {
			wantMay(t, "ack", frame.Frame{Kind: k.kind, Ack: n}, k.ack)
			wantMay(t, "mask", frame.Frame{Kind: k.kind, Mask: n}, k.mask)
			wantMay(t, "session and epoch", frame.Frame{Kind: k.kind, Session: n, Epoch: n}, k.kind >= 1 && k.kind <= 5)
		}
		for _, many := range []int{1, 2, 255, 256} {
			wantMay(t, "payload", frame.Frame{Kind: k.kind, Payload: filled(many, 8)}, k.payload)
		}
		wantMay(t, "all", frame.Frame{Kind: k.kind, Number: 1, Ack: 1, Mask: 1, Payload: []byte{1}}, k.number && k.ack && k.mask && k.payload)
		wantMay(t, "ack and mask", frame.Frame{Kind: k.kind, Ack: 3, Mask: 5}, k.ack && k.mask)
	}
}

// P4.1: a payload has at most 256 bytes, whatever the kind; none is as an empty one.
func TestPayloads(t *testing.T) {
	for kind := range byte(7) {
		some := kind >= 1 && kind <= 5
		wantMay(t, "nil", frame.Frame{Kind: kind}, some)
		wantMay(t, "empty", frame.Frame{Kind: kind, Payload: []byte{}}, some)
		wantMay(t, "256", frame.Frame{Kind: kind, Payload: make([]byte, 256)}, some && kind != frame.Ack)
		for _, many := range []int{257, 512, 65535, 65536, 65537, 1 << 20} {
			wantMay(t, "long", frame.Frame{Kind: kind, Payload: make([]byte, many)}, false)
		}
	}
}

// P4.1: a Data's number is below 2^31.
func TestDataNumber(t *testing.T) {
	for _, n := range []uint32{0, 1, 1<<31 - 2, 1<<31 - 1} {
		wantMay(t, "below", frame.Frame{Kind: frame.Data, Number: n, Payload: []byte("a")}, true)
	}
	for _, n := range []uint32{1 << 31, 1<<31 + 1, math.MaxUint32} {
		wantMay(t, "not below", frame.Frame{Kind: frame.Data, Number: n, Payload: []byte("a")}, false)
	}
}

// P4.1: the frames that the other tests take.
func TestFramesOfTheTests(t *testing.T) {
	for _, f := range goodFrames() {
		wantMay(t, "good", f, true)
	}
	for _, f := range badFrames() {
		wantMay(t, "bad", f, false)
	}
}

// neighbours tells frames that differ from f in one field alone, and may be.
func neighbours(f frame.Frame) []frame.Frame {
	all := []frame.Frame{}
	add := func(change func(g *frame.Frame)) {
		g := f
		g.Payload = bytes.Clone(f.Payload)
		change(&g)
		if g.May() {
			all = append(all, g)
		}
	}
	for kind := range byte(8) {
		if kind != f.Kind {
			add(func(g *frame.Frame) { g.Kind = kind })
		}
	}
	for bit := range 32 {
		add(func(g *frame.Frame) { g.Session ^= 1 << bit })
		add(func(g *frame.Frame) { g.Epoch ^= 1 << bit })
		add(func(g *frame.Frame) { g.Number ^= 1 << bit })
		add(func(g *frame.Frame) { g.Ack ^= 1 << bit })
		add(func(g *frame.Frame) { g.Mask ^= 1 << bit })
	}
	for i := range f.Payload {
		add(func(g *frame.Frame) { g.Payload[i] ^= 1 })
		add(func(g *frame.Frame) { g.Payload = g.Payload[:i] })
	}
	add(func(g *frame.Frame) { g.Payload = append(g.Payload, 0) })
	return all
}

// P4.5: frames that differ in one field alone are signed unlike.
func TestUnlikeFrames(t *testing.T) {
	for _, f := range goodFrames() {
		if f.Signed() == nil {
			t.Fatal("nothing is signed")
		}
		seen := map[string]frame.Frame{string(f.Signed()): f}
		all := neighbours(f)
		if len(all) < 60 {
			t.Errorf("only %d frames beside %v", len(all), f)
		}
		for _, g := range all {
			if h, there := seen[string(g.Signed())]; there && !same(g, h) {
				t.Errorf("%v is signed as %v", g, h)
			}
			seen[string(g.Signed())] = g
		}
	}
}

// P4.5: numbers that change places are signed unlike.
func TestNumbersThatChangePlaces(t *testing.T) {
	seen := map[string]bool{}
	for place := range 5 {
		n := [5]uint32{}
		n[place] = 9
		f := frame.Frame{Kind: frame.Data, Session: n[0], Epoch: n[1], Number: n[2], Ack: n[3], Mask: n[4]}
		seen[string(f.Signed())] = true
	}
	if len(seen) != 5 {
		t.Errorf("%d unlike ones, want 5", len(seen))
	}
}
