package mux_test

import (
	"bytes"
	"strings"
	"sync"
	"testing"

	"longwire/api"
	"longwire/mux"
)

// roomy tells a copy of b with room behind its end, and all of it with that room.
func roomy(b []byte) (front, all []byte) {
	all = append(bytes.Clone(b), bytes.Repeat([]byte{7}, 100)...)
	return all[:len(b)], all
}

// wantAsItWas asks that bytes, and the room behind them, read as they did.
func wantAsItWas(t *testing.T, all, was []byte) {
	t.Helper()
	if !bytes.Equal(all[:len(was)], was) || !bytes.Equal(all[len(was):], bytes.Repeat([]byte{7}, 100)) {
		t.Fatalf("%.100x is changed to %.100x", was, all)
	}
}

// R3: a body, and a datagram, that are handed in read afterwards as before, also in the room behind their ends.
func TestWhatIsHandedInStays(t *testing.T) {
	b := benchOf(t, mux.Up, 8192)
	for _, n := range []int{0, 1, 254, 600, 4096, 4097} {
		was := message(command, n).Body
		body, all := roomy(was)
		b.m.Send(mux.Message{Channel: command, Body: body})
		b.sent(api.OK)
		b.sent(api.OK)
		wantAsItWas(t, all, was)
	}
	for _, p := range []string{part(stdout, 0, "a"), grant(command, 1), part(stdout, 1, "b"), "breaks"} {
		was := b.in(p)[0]
		d, all := roomy(was)
		b.m.Take(d)
		wantAsItWas(t, all, was)
		for _, d := range b.own.Frames(b.now) {
			b.other.Take(d)
		}
	}
	if !b.m.Broken() {
		t.Error("it is not broken")
	}
}

// R3: a body, and a datagram, that were handed in, and changed afterwards, change nothing.
func TestHandedInAndChanged(t *testing.T) {
	b := benchOf(t, mux.Up, 8192)
	x := message(command, 600)
	payloads := partsOf(x)
	want(t, "Send", b.m.Send(x), api.OK)
	clear(x.Body)
	b.wantSent(payloads...)
	var l []mux.Message
	for _, p := range []string{part(stdout, 0, "ab"), part(stdout, 0, "cd"), part(stdout, 1, "ef")} {
		d := b.in(p)[0]
		var err api.Errno
		l, err = b.m.Take(d)
		want(t, "Take", err, api.OK)
		clear(d)
		for _, d := range b.own.Frames(b.now) {
			b.other.Take(d)
		}
	}
	wantMessages(t, l, text(stdout, "abcdef"))
}

// R3: messages and datagrams that were handed out, and changed afterwards, change nothing, and no two share their memory.
func TestHandedOutAndChanged(t *testing.T) {
	b, twin := benchOf(t, mux.Up, 8192), benchOf(t, mux.Up, 8192)
	for _, b := range []*bench{b, twin} {
		want(t, "Send", b.m.Send(message(command, 4096)), api.OK)
	}
	for _, now := range []int64{0, 10, 30} {
		l, _ := b.m.Frames(now)
		same, _ := twin.m.Frames(now)
		for k, d := range l {
			if !bytes.Equal(d, same[k]) {
				t.Fatalf("datagram %d at %d is %x, want %x", k, now, d, same[k])
			}
			for at := range d[:cap(d)] {
				d[:cap(d)][at] ^= 0xff
			}
		}
	}
	if b.m.Waits() != 1 || twin.m.Waits() != 1 {
		t.Fatalf("%d wait", b.m.Waits())
	}
	l, err := b.atOnce(part(stdout, 0, "ab"), part(stdout, 1, "cd"), part(stdout, 1, "ef"), part(stdout, 1, ""), part(stdout, 0, "gh"))
	want(t, "Take", err, api.OK)
	for k, text := range []string{"abcd", "ef", ""} {
		if string(l[k].Body) != text {
			t.Fatalf("message %d is %q", k, l[k].Body)
		}
		_ = append(l[k].Body, "behind"...)
		all := l[k].Body[:cap(l[k].Body)]
		for at := range all {
			all[at] = 'x'
		}
	}
	clear(l[:cap(l)])
	for _, d := range b.own.Frames(b.now) {
		b.other.Take(d)
	}
	wantMessages(t, b.take(part(stdout, 1, "ij")), text(stdout, "ghij"))
}

// R3: a message that waits, or is under way, is not the one that was handed in, or out, before.
func TestBodiesAreOnesOwn(t *testing.T) {
	b := benchOf(t, mux.Down, 8192)
	body := []byte("first")
	want(t, "Send", b.m.Send(mux.Message{Channel: stdout, Body: body}), api.OK)
	copy(body, "secon")
	want(t, "Send", b.m.Send(mux.Message{Channel: stderr, Body: body}), api.OK)
	copy(body, "third")
	b.wantSent(part(stdout, 1, "first"), part(stderr, 1, "secon"))
	l := b.take(part(command, 0, "ab"), part(command, 1, "cd"))
	_ = append(l[0].Body, "xxxx"...)
	wantMessages(t, b.take(part(command, 0, "ef"), part(command, 1, "gh")), text(command, "efgh"))
	wantMessages(t, l, text(command, "abcd"))
}

// R7: muxes live apart, also where they are used at one time.
func TestMuxesLiveApart(t *testing.T) {
	var wait sync.WaitGroup
	for k := range 8 {
		up, down := lineOf(t, 300+k)
		wait.Go(func() {
			for n := range 50 {
				x := mux.Message{Channel: command, Body: []byte(strings.Repeat("x", n))}
				if up.m.Send(x) != api.OK {
					t.Errorf("line %d: Send of %d is refused", k, n)
				}
				for _, l := range [][2]*bench{{up, down}, {down, up}} {
					for _, x := range through(t, l[0], l[1]) {
						l[1].m.Use(x.Channel, len(x.Body)+1)
					}
				}
			}
			if got := down.m.Held(command); got != 0 {
				t.Errorf("line %d: %d is held", k, got)
			}
		})
	}
	wait.Wait()
}
