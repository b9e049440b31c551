package net_test

import (
	"bytes"
	"strings"
	"sync"
	"testing"

	"longwire/api"
	"longwire/net"
)

// roomy tells a copy of b with room behind its end, and all of it with that room.
func roomy(b string) (front, all []byte) {
	all = append([]byte(b), bytes.Repeat([]byte{7}, 100)...)
	return all[:len(b)], all
}

// P11.5: bytes that are handed in read afterwards as before, also in the room behind their end.
func TestHandedInStays(t *testing.T) {
	for _, way := range bothWays() {
		n := net.New()
		for _, b := range []string{"", "a", "abc", strings.Repeat("x", maxGram), strings.Repeat("x", maxGram+1)} {
			front, all := roomy(b)
			n.Send(way, front)
			n.Double(way, 0)
			for k := range n.Waits(way) {
				n.Flip(way, k, 0)
			}
			for _, told := range n.All(way) {
				_ = append(told, 9)
				clear(told)
			}
			for range n.Waits(way) {
				told, _ := n.Deliver(way, 0)
				_ = append(told, 9)
				clear(told)
			}
			if string(all) != b+strings.Repeat("\x07", 100) {
				t.Errorf("%.40q is changed to %.40q", b, all)
			}
		}
	}
}

// P11.5: bytes that were handed in, and are changed by the caller afterwards, change nothing.
func TestHandedInChanged(t *testing.T) {
	for _, way := range bothWays() {
		n := net.New()
		b := []byte("abc")
		for range 3 {
			if _, e := n.Send(way, b); e != api.OK {
				t.Fatalf("Send is %d", e)
			}
			want(t, "Double", n.Double(way, 0), api.OK)
			b[0]++
		}
		clear(b)
		wantWaiting(t, n, way, "abc", "abc", "bbc", "abc", "cbc", "abc")
	}
}

// P11.5: bytes that All told, changed in the range and behind it, change nothing, and no other that was told.
func TestAllToldChanged(t *testing.T) {
	for _, way := range bothWays() {
		n := netOf(t, []string{"ab", "", "cd"}, []string{"ab", "", "cd"})
		want(t, "Double", n.Double(way, 0), api.OK)
		l := []string{"ab", "", "cd", "ab"}
		var kept [][]byte
		for range 2 {
			for at, b := range n.All(way) {
				if string(b) != l[at] {
					t.Fatalf("%q stands at %d, not %q", b, at, l[at])
				}
				clear(b)
				kept = append(kept, append(b, 'x'))
			}
			wantWaiting(t, n, way, l...)
		}
		for _, b := range kept {
			clear(b)
		}
		wantWaiting(t, n, way, l...)
		wantWaiting(t, n, 1-way, l[:3]...)
	}
}

// P11.5: bytes that were told stay as they were told, whatever becomes of the net.
func TestToldStays(t *testing.T) {
	n := netOf(t, []string{"ab", "cd"}, nil)
	want(t, "Double", n.Double(net.Up, 0), api.OK)
	var told [][]byte
	for _, b := range n.All(net.Up) {
		told = append(told, b)
	}
	b, _ := n.Deliver(net.Up, 0)
	told = append(told, b)
	for range n.Waits(net.Up) {
		want(t, "Flip", n.Flip(net.Up, 0, 0), api.OK)
		n.Deliver(net.Up, 0)
	}
	for range 2 * maxWaits {
		n.Send(net.Up, []byte("zzzz"))
	}
	for i, want := range []string{"ab", "cd", "ab", "ab"} {
		if string(told[i]) != want {
			t.Errorf("%q was told, and is %q", want, told[i])
		}
	}
}

// P11.5: bytes that Deliver told, changed, change nothing: not one just like them, and not what another call told.
func TestDeliveredChanged(t *testing.T) {
	for _, way := range bothWays() {
		n := netOf(t, []string{"ab", "cd"}, []string{"ab", "cd"})
		for range 3 {
			want(t, "Double", n.Double(way, 0), api.OK)
		}
		var told [][]byte
		for _, b := range n.All(way) {
			told = append(told, b)
		}
		first, _ := n.Deliver(way, 0)
		clear(first)
		_ = append(first, 'x')
		wantWaiting(t, n, way, "cd", "ab", "ab", "ab")
		second, _ := n.Deliver(way, 1)
		if string(second) != "ab" || string(told[0]) != "ab" || string(told[2]) != "ab" {
			t.Errorf("a change of what was delivered comes through to %q, %q, %q", second, told[0], told[2])
		}
		clear(second)
		clear(told[4])
		wantWaiting(t, n, way, "cd", "ab", "ab")
		wantDelivered(t, n, way, 2, "ab")
	}
}

// P11.5: what was delivered is the caller's: sent again, it is a datagram of its own.
func TestSentAgain(t *testing.T) {
	n := netOf(t, []string{"ab"}, nil)
	b, e := n.Deliver(net.Up, 0)
	want(t, "Deliver", e, api.OK)
	n.Send(net.Down, b)
	n.Send(net.Up, b)
	want(t, "Flip", n.Flip(net.Up, 0, 0), api.OK)
	wantWaiting(t, n, net.Up, "\x60b")
	wantWaiting(t, n, net.Down, "ab")
	if string(b) != "ab" {
		t.Errorf("what was delivered is changed to %q", b)
	}
}

// R7: nets have nothing in common: several at once answer as one alone.
func TestNetsAreApart(t *testing.T) {
	var all sync.WaitGroup
	for i := range 8 {
		all.Go(func() {
			mark := string(rune('a' + i))
			n := net.New()
			for k := range 200 {
				n.Send(k%2, []byte(mark))
				n.Double(k%2, 0)
				for at, b := range n.All(k % 2) {
					if string(b) != mark {
						t.Errorf("%q stands at %d of the net of %q", b, at, mark)
					}
				}
			}
			if n.Waits(net.Up) != maxWaits || n.Waits(net.Down) != maxWaits {
				t.Errorf("%d and %d wait", n.Waits(net.Up), n.Waits(net.Down))
			}
		})
	}
	all.Wait()
}
