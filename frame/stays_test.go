package frame_test

import (
	"bytes"
	"sync"
	"testing"

	"longwire/api"
	"longwire/frame"
)

// roomy tells a copy of b with room behind its end, and all of it with that room.
func roomy(b []byte) (front, all []byte) {
	all = append(bytes.Clone(b), filled(100, 50)...)
	return all[:len(b)], all
}

// R3: the payload reads afterwards as before, also in the room behind its end.
func TestPayloadStays(t *testing.T) {
	for _, f := range append(goodFrames(), badFrames()...) {
		payload, all := roomy(f.Payload)
		was := bytes.Clone(all)
		f.Payload = payload
		g := f
		f.May()
		f.Signed()
		frame.Encode(f, 1)
		if !bytes.Equal(all, was) || !same(f, g) || len(f.Payload) != len(payload) {
			t.Errorf("kind %d: the payload is changed", f.Kind)
		}
	}
}

// R3: a datagram reads afterwards as before, also in the room behind its end, refused or not.
func TestDatagramStays(t *testing.T) {
	for _, f := range append(goodFrames(), badFrames()...) {
		b, all := roomy(wantedDatagram(f, 9))
		was := bytes.Clone(all)
		frame.Decode(b)
		frame.Decode(b[:len(b)-1])
		frame.Decode(all)
		if !bytes.Equal(all, was) {
			t.Errorf("kind %d: the datagram is changed", f.Kind)
		}
	}
}

// P4.2: what is read is new memory: what was handed in is changed behind it.
func TestReadIsNewMemory(t *testing.T) {
	for _, f := range goodFrames() {
		b := encoded(t, f, 6)
		g, _, _ := frame.Decode(b)
		other, _, _ := frame.Decode(b)
		clear(b)
		if !same(f, g) {
			t.Errorf("%v: changed behind it to %v", f, g)
		}
		clear(g.Payload)
		if !same(f, other) {
			t.Errorf("%v: two that were read share their memory", f)
		}
	}
}

// R3: what is answered of a frame is new memory: one changed does not change another, nor the payload.
func TestAnswersAreNewMemory(t *testing.T) {
	for _, f := range goodFrames() {
		was := f
		was.Payload = bytes.Clone(f.Payload)
		first, second := f.Signed(), encoded(t, f, 8)
		clear(first[:cap(first)])
		clear(second[:cap(second)])
		if !same(f, was) || !bytes.Equal(f.Signed(), wantedSigned(f)) || !bytes.Equal(encoded(t, f, 8), wantedDatagram(f, 8)) {
			t.Errorf("%v: an answer is shared", was)
		}
		kept := encoded(t, f, 8)
		clear(f.Payload)
		if !bytes.Equal(kept, wantedDatagram(was, 8)) {
			t.Errorf("%v: the datagram hangs on the payload's memory", was)
		}
	}
}

// R3: what is read has no room that it shares: appending to one payload is not seen in another.
func TestNoSharedRoom(t *testing.T) {
	f := frame.Frame{Kind: frame.Data, Payload: []byte("abc")}
	b := encoded(t, f, 1)
	g, _, _ := frame.Decode(b)
	_ = append(g.Payload, 1, 2, 3, 4, 5, 6, 7, 8, 9, 10, 11, 12)
	wantRead(t, b, f, 1)
}

// R7: calls at one time, and the same calls again, tell the same.
func TestCallsAtOneTime(t *testing.T) {
	f := frame.Frame{Kind: frame.Data, Session: 1, Number: 2, Payload: filled(256, 70)}
	b := encoded(t, f, 3)
	var wait sync.WaitGroup
	for range 8 {
		wait.Go(func() {
			for range 100 {
				got, e := frame.Encode(f, 3)
				g, tag, d := frame.Decode(b)
				if e != api.OK || d != api.OK || tag != 3 || !bytes.Equal(got, b) || !same(f, g) {
					t.Error("another answer")
					return
				}
			}
		})
	}
	wait.Wait()
}
