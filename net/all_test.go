package net_test

import (
	"fmt"
	"testing"

	"longwire/api"
	"longwire/net"
)

// wantRange asks what a range tells, with its places.
func wantRange(t *testing.T, name string, all func(yield func(at int, b []byte) bool), l ...string) {
	t.Helper()
	k := 0
	for at, b := range all {
		if k >= len(l) || at != k || string(b) != l[k] {
			t.Fatalf("%s: %.40q stands at %d, as number %d of %.400q", name, b, at, k, l)
		}
		k++
	}
	if k != len(l) {
		t.Errorf("%s: %d are told, not %d", name, k, len(l))
	}
}

// P11.3: All of each way tells what waits, with the places, in order.
func TestAll(t *testing.T) {
	for _, way := range bothWays() {
		for _, many := range fewAndMany() {
			n, l, others := netWith(t, way, many)
			wantRange(t, "own", n.All(way), l...)
			wantRange(t, "other", n.All(1-way), others...)
			wantRange(t, "own again", n.All(way), l...)
		}
	}
}

// P11.3: All of a way that is none, of no net, and of one that New did not make tells nothing.
func TestAllOfNone(t *testing.T) {
	full := netOf(t, grams("u", maxWaits), grams("d", maxWaits))
	for _, way := range noWays() {
		wantRange(t, "no way", full.All(way))
	}
	for _, n := range []*net.Net{nil, {}} {
		for _, way := range append(noWays(), bothWays()...) {
			wantRange(t, "no net", n.All(way))
		}
	}
}

// P11.3: a range that is left early is told no more, and changes nothing.
func TestAllLeft(t *testing.T) {
	for _, way := range bothWays() {
		n, l, _ := netWith(t, way, maxWaits)
		for _, many := range []int{1, 2, 5, maxWaits - 1, maxWaits} {
			told := 0
			n.All(way)(func(at int, b []byte) bool {
				if at != told || string(b) != l[told] {
					t.Fatalf("%q stands at %d", b, at)
				}
				told++
				return told < many
			})
			if told != many {
				t.Errorf("%d are told of a range that is left at %d", told, many)
			}
			wantWaiting(t, n, way, l...)
		}
	}
}

// P11.3: a range tells what stands when it begins, not when All was called, and each range anew.
func TestAllBegins(t *testing.T) {
	n := net.New()
	all := n.All(net.Up)
	wantRange(t, "new", all)
	mustSend(t, n, net.Up, "a", "b")
	wantRange(t, "two", all, "a", "b")
	want(t, "Flip", n.Flip(net.Up, 0, 1), api.OK)
	wantRange(t, "turned", all, "c", "b")
	want(t, "Double", n.Double(net.Up, 0), api.OK)
	wantDelivered(t, n, net.Up, 1, "b")
	wantRange(t, "doubled", all, "c", "c")
	mustSend(t, n, net.Down, "d")
	wantRange(t, "the other way", all, "c", "c")
}

// inRange does something at each place of a range of each way, and asks that the range tells what stood when it began, and what waits afterwards.
func inRange(t *testing.T, name string, many int, do func(n *net.Net, way, at int), after ...string) {
	t.Helper()
	for _, way := range bothWays() {
		n, l, others := netWith(t, way, many)
		k := 0
		for at, b := range n.All(way) {
			if k >= many || at != k || string(b) != l[k] {
				t.Fatalf("%s: %q stands at %d, as number %d", name, b, at, k)
			}
			do(n, way, at)
			k++
		}
		if k != many {
			t.Errorf("%s: %d are told, not %d", name, k, many)
		}
		wantWaiting(t, n, way, after...)
		wantWaiting(t, n, 1-way, others...)
	}
}

// P11.3: the net may be changed in the range.
func TestAllChanged(t *testing.T) {
	send := func(n *net.Net, way, at int) { n.Send(way, []byte(fmt.Sprintf("new %d", at))) }
	inRange(t, "Send", 3, send, "own 0", "own 1", "own 2", "new 0", "new 1", "new 2")
	inRange(t, "Send where all wait", maxWaits, send, grams("new ", maxWaits)...)
	inRange(t, "Deliver of the first", 5, func(n *net.Net, way, at int) { n.Deliver(way, 0) })
	inRange(t, "Deliver of the last", 5, func(n *net.Net, way, at int) { n.Deliver(way, 4-at) })
	inRange(t, "Deliver of the next", 5, func(n *net.Net, way, at int) {
		if at == 1 {
			n.Deliver(way, 2)
		}
	}, "own 0", "own 1", "own 3", "own 4")
	inRange(t, "Double", 3, func(n *net.Net, way, at int) { n.Double(way, 0) },
		"own 0", "own 1", "own 2", "own 0", "own 0", "own 0")
	inRange(t, "Flip", 3, func(n *net.Net, way, at int) {
		for k := range 3 {
			n.Flip(way, k, 0)
		}
	}, "nwn 0", "nwn 1", "nwn 2")
	inRange(t, "all of it", 4, func(n *net.Net, way, at int) {
		n.Flip(way, 3, 5)
		n.Double(way, 3)
		n.Deliver(way, 0)
		n.Send(way, []byte("x"))
	}, "own 3", "X", "Own 3", "x", "X", "x", "Own 3", "x")
}

// P11.3: ranges within a range tell each what stands when it begins.
func TestAllWithin(t *testing.T) {
	n := netOf(t, []string{"a", "b"}, nil)
	for at, b := range n.All(net.Up) {
		if string(b) != string("ab"[at]) {
			t.Errorf("%q stands at %d", b, at)
		}
		mustSend(t, n, net.Up, "n")
		wantRange(t, "within", n.All(net.Up), []string{"a", "b", "n", "n"}[:3+at]...)
	}
}
