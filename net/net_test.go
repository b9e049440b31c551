package net_test

import (
	"bytes"
	"fmt"
	"math"
	"slices"
	"strings"
	"testing"

	"longwire/api"
	"longwire/net"
)

// The limits, as the chapter tells them.
const (
	maxWaits = 64
	maxGram  = 600
)

// bothWays tells the ways there are.
func bothWays() []int { return []int{net.Up, net.Down} }

// noWays tells ways that are none.
func noWays() []int { return []int{-1, 2, 3, -2, 64, 256, math.MinInt, math.MaxInt} }

// want asks for the error of a call.
func want(t *testing.T, call string, got, e api.Errno) {
	t.Helper()
	if got != e {
		t.Errorf("%s is %d, not %d", call, got, e)
	}
}

// waiting tells what waits on a way, and asks that All and Waits tell it alike.
func waiting(t *testing.T, n *net.Net, way int) []string {
	t.Helper()
	var l []string
	for at, b := range n.All(way) {
		if at != len(l) {
			t.Fatalf("way %d: All tells place %d as the one behind %d", way, at, len(l)-1)
		}
		l = append(l, string(b))
	}
	if n.Waits(way) != len(l) {
		t.Errorf("way %d: Waits is %d, where All tells %d", way, n.Waits(way), len(l))
	}
	return l
}

// wantWaiting asks what waits on a way.
func wantWaiting(t *testing.T, n *net.Net, way int, l ...string) {
	t.Helper()
	if got := waiting(t, n, way); !slices.Equal(got, l) {
		t.Errorf("on way %d wait %.400q, not %.400q", way, got, l)
	}
}

// mustSend sends a datagram for which none is lost.
func mustSend(t *testing.T, n *net.Net, way int, l ...string) {
	t.Helper()
	for _, b := range l {
		if lost, e := n.Send(way, []byte(b)); lost || e != api.OK {
			t.Fatalf("Send of %.40q on way %d is %t, %d", b, way, lost, e)
		}
	}
}

// wantDelivered asks for the datagram of a place.
func wantDelivered(t *testing.T, n *net.Net, way, at int, b string) {
	t.Helper()
	if got, e := n.Deliver(way, at); e != api.OK || string(got) != b {
		t.Errorf("Deliver of place %d of way %d is %.40q, %d, not %.40q", at, way, got, e, b)
	}
}

// grams tells so many datagrams, each unlike the others.
func grams(mark string, many int) []string {
	var l []string
	for i := range many {
		l = append(l, fmt.Sprintf("%s%d", mark, i))
	}
	return l
}

// netOf makes a net on which these wait.
func netOf(t *testing.T, up, down []string) *net.Net {
	t.Helper()
	n := net.New()
	mustSend(t, n, net.Up, up...)
	mustSend(t, n, net.Down, down...)
	return n
}

// wantStays asks that what is done leaves both ways as they are.
func wantStays(t *testing.T, n *net.Net, name string, do func()) {
	t.Helper()
	up, down := waiting(t, n, net.Up), waiting(t, n, net.Down)
	do()
	wantWaiting(t, n, net.Up, up...)
	wantWaiting(t, n, net.Down, down...)
	if t.Failed() {
		t.Fatalf("%s changes the net", name)
	}
}

// wantRefused asks for the error of each call that is given a way, a place and a bit, and that nothing is changed or told beside it.
func wantRefused(t *testing.T, n *net.Net, way, at, bit int, e api.Errno) {
	t.Helper()
	name := fmt.Sprintf("of way %d, place %d, bit %d", way, at, bit)
	b, err := n.Deliver(way, at)
	want(t, "Deliver "+name, err, e)
	if len(b) > 0 {
		t.Errorf("Deliver %s tells %.40q", name, b)
	}
	want(t, "Double "+name, n.Double(way, at), e)
	want(t, "Flip "+name, n.Flip(way, at, bit), e)
}

// The chapter's example.
func TestExample(t *testing.T) {
	n := net.New()
	mustSend(t, n, net.Up, "a", "b")
	want(t, "Double", n.Double(net.Up, 0), api.OK)
	wantWaiting(t, n, net.Up, "a", "b", "a")
	wantDelivered(t, n, net.Up, 1, "b")
	wantDelivered(t, n, net.Up, 1, "a")
	wantWaiting(t, n, net.Up, "a")
	wantWaiting(t, n, net.Down)
}

// P11.1: the ways and limits are those of the chapter.
func TestNumbers(t *testing.T) {
	if net.Up != 0 || net.Down != 1 || api.MaxWaits != maxWaits || api.MaxGram != maxGram {
		t.Error("a number is another one")
	}
}

// P11.1: on a new net nothing waits, on either way, and two are apart.
func TestNew(t *testing.T) {
	n, other := net.New(), net.New()
	for _, way := range bothWays() {
		wantWaiting(t, n, way)
		for _, at := range []int{0, 1, -1, maxWaits - 1, maxWaits} {
			wantRefused(t, n, way, at, 0, api.ErrNone)
		}
	}
	mustSend(t, n, net.Up, "a")
	mustSend(t, other, net.Down, "b")
	wantWaiting(t, n, net.Up, "a")
	wantWaiting(t, n, net.Down)
	wantWaiting(t, other, net.Up)
	wantWaiting(t, other, net.Down, "b")
}

// P11.1 to P11.3: a net that is none, or that New did not make: ErrNil, ahead of all else, and nothing waits.
func TestNone(t *testing.T) {
	for _, n := range []*net.Net{nil, {}, new(net.Net)} {
		for _, way := range append(noWays(), bothWays()...) {
			for _, size := range []int{0, 1, maxGram, maxGram + 1} {
				lost, e := n.Send(way, make([]byte, size))
				want(t, "Send", e, api.ErrNil)
				if lost {
					t.Error("Send on none loses one")
				}
			}
			for _, at := range []int{-1, 0, 1, maxWaits} {
				wantRefused(t, n, way, at, -1, api.ErrNil)
				wantRefused(t, n, way, at, 0, api.ErrNil)
			}
			wantWaiting(t, n, way)
		}
	}
}

// P11.1 to P11.3: ways that are none: ErrArg, ahead of all but ErrNil, and nothing is changed, and nothing waits on them.
func TestNoWay(t *testing.T) {
	for _, up := range [][]string{nil, {"a"}, grams("u", maxWaits)} {
		n := netOf(t, up, grams("d", 3))
		for _, way := range noWays() {
			wantStays(t, n, "a way that is none", func() {
				for _, size := range []int{0, 1, maxGram, maxGram + 1, 4 * maxGram} {
					lost, e := n.Send(way, make([]byte, size))
					want(t, "Send", e, api.ErrArg)
					if lost {
						t.Errorf("Send on way %d loses one", way)
					}
				}
				for _, at := range []int{-1, 0, 1, maxWaits - 1, maxWaits} {
					for _, bit := range []int{-1, 0, 7, 8} {
						wantRefused(t, n, way, at, bit, api.ErrArg)
					}
				}
				wantWaiting(t, n, way)
			})
		}
	}
}

// P11.1: what is sent waits behind the others of its way, and the other way stays as it is.
func TestSend(t *testing.T) {
	for _, way := range bothWays() {
		n := net.New()
		var l []string
		for i, b := range []string{"a", "b", "", "a", "\x00\xff", "", "c"} {
			mustSend(t, n, way, b)
			l = append(l, b)
			wantWaiting(t, n, way, l...)
			wantWaiting(t, n, 1-way)
			if n.Waits(way) != i+1 {
				t.Errorf("Waits is %d behind %d", n.Waits(way), i+1)
			}
		}
	}
}

// P11.1: datagrams of all sizes that may be, of none, too; a longer one: ErrLong, and none is sent, and none lost.
func TestSendSizes(t *testing.T) {
	for _, way := range bothWays() {
		for _, size := range []int{0, 1, 2, maxGram - 1, maxGram} {
			n := net.New()
			b := strings.Repeat("x", size)
			mustSend(t, n, way, b)
			wantWaiting(t, n, way, b)
			wantDelivered(t, n, way, 0, b)
			wantWaiting(t, n, way)
		}
		for _, many := range []int{0, 1, maxWaits - 1, maxWaits} {
			n := netOf(t, grams("u", many), grams("d", many))
			for _, size := range []int{maxGram + 1, maxGram + 2, 2 * maxGram, 65536} {
				wantStays(t, n, "a long one", func() {
					lost, e := n.Send(way, make([]byte, size))
					want(t, "Send of a long one", e, api.ErrLong)
					if lost {
						t.Errorf("Send of %d bytes loses one", size)
					}
				})
			}
		}
	}
}

// P11.1: nil is a datagram of no bytes.
func TestSendNil(t *testing.T) {
	n := net.New()
	if lost, e := n.Send(net.Down, nil); lost || e != api.OK {
		t.Errorf("Send of nil is %t, %d", lost, e)
	}
	wantWaiting(t, n, net.Down, "")
	if b, e := n.Deliver(net.Down, 0); len(b) != 0 || e != api.OK {
		t.Errorf("Deliver of no bytes is %q, %d", b, e)
	}
	want(t, "Deliver of what was delivered", second(n.Deliver(net.Down, 0)), api.ErrNone)
}

func second(_ []byte, e api.Errno) api.Errno { return e }

// P11.1: where 63 wait there is room for one more; where 64 do, the first one is lost, and the others move up; the other way stays.
func TestSendFull(t *testing.T) {
	for _, way := range bothWays() {
		others := grams("o", maxWaits)
		l := grams("a", maxWaits-1)
		n := net.New()
		mustSend(t, n, 1-way, others...)
		mustSend(t, n, way, l...)
		l = append(l, "last")
		mustSend(t, n, way, "last")
		wantWaiting(t, n, way, l...)
		for i := range 3 * maxWaits {
			b := fmt.Sprintf("b%d", i)
			lost, e := n.Send(way, []byte(b))
			if !lost || e != api.OK {
				t.Fatalf("Send where all wait is %t, %d", lost, e)
			}
			l = append(l[1:], b)
			wantWaiting(t, n, way, l...)
			wantWaiting(t, n, 1-way, others...)
		}
		wantDelivered(t, n, way, 0, l[0])
		mustSend(t, n, way, "room")
		wantWaiting(t, n, way, append(l[1:], "room")...)
	}
}

// P11.1, P11.3: one that was lost cannot be delivered.
func TestLostIsGone(t *testing.T) {
	n := netOf(t, grams("a", maxWaits), nil)
	if lost, e := n.Send(net.Up, []byte("new")); !lost || e != api.OK {
		t.Fatalf("Send is %t, %d", lost, e)
	}
	for range n.Waits(net.Up) {
		b, e := n.Deliver(net.Up, 0)
		if e != api.OK || bytes.Equal(b, []byte("a0")) {
			t.Fatalf("Deliver is %q, %d", b, e)
		}
	}
}

// P11.3: how many wait on each way.
func TestWaits(t *testing.T) {
	n := net.New()
	for i := range maxWaits {
		if n.Waits(net.Up) != i || n.Waits(net.Down) != i/2 {
			t.Fatalf("Waits is %d and %d, not %d and %d", n.Waits(net.Up), n.Waits(net.Down), i, i/2)
		}
		mustSend(t, n, net.Up, "u")
		if i%2 == 1 {
			mustSend(t, n, net.Down, "d")
		}
	}
	for _, way := range noWays() {
		if n.Waits(way) != 0 {
			t.Errorf("Waits of way %d is %d", way, n.Waits(way))
		}
	}
}
