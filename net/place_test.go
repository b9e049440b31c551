package net_test

import (
	"fmt"
	"math"
	"slices"
	"strings"
	"testing"

	"longwire/api"
	"longwire/net"
)

// fewAndMany tells how many may wait on a way, at its ends and between.
func fewAndMany() []int { return []int{0, 1, 2, 3, 7, maxWaits - 1, maxWaits} }

// noPlaces tells places at which none stands, where so many wait.
func noPlaces(many int) []int {
	return []int{-1, -2, many, many + 1, many + maxWaits, -maxWaits, math.MinInt, math.MaxInt}
}

// netWith makes a net on which so many wait on a way, and 5 on the other one, and tells them.
func netWith(t *testing.T, way, many int) (n *net.Net, l, others []string) {
	t.Helper()
	l, others = grams("own ", many), grams("other ", 5)
	n = net.New()
	mustSend(t, n, way, l...)
	mustSend(t, n, 1-way, others...)
	return n, l, others
}

// P11.2: where no datagram stands at a place: ErrNone, whatever the bit, and nothing is changed.
func TestNoPlace(t *testing.T) {
	for _, way := range bothWays() {
		for _, many := range fewAndMany() {
			n, _, _ := netWith(t, way, many)
			for _, at := range noPlaces(many) {
				for _, bit := range []int{-1, 0, 7, 1 << 20, math.MinInt, math.MaxInt} {
					wantStays(t, n, "a place that is none", func() { wantRefused(t, n, way, at, bit, api.ErrNone) })
				}
			}
		}
	}
}

// P11.2: the places of the other way are not those of a way.
func TestPlacesOfTheOtherWay(t *testing.T) {
	for _, way := range bothWays() {
		n, _, others := netWith(t, way, 2)
		for at := 2; at < len(others); at++ {
			wantRefused(t, n, way, at, 0, api.ErrNone)
		}
		wantDelivered(t, n, 1-way, 4, others[4])
		wantWaiting(t, n, 1-way, others[:4]...)
	}
}

// P11.2: each place is delivered, waits no more, and those behind it move up, in their order.
func TestDeliver(t *testing.T) {
	for _, way := range bothWays() {
		for _, many := range fewAndMany() {
			for at := range many {
				n, l, others := netWith(t, way, many)
				wantDelivered(t, n, way, at, l[at])
				l = slices.Delete(l, at, at+1)
				wantWaiting(t, n, way, l...)
				wantWaiting(t, n, 1-way, others...)
				want(t, "Deliver past the last", second(n.Deliver(way, many-1)), api.ErrNone)
			}
		}
	}
}

// P11.2: all are delivered, the first one first, the last one first, and from the middle.
func TestDeliverAll(t *testing.T) {
	for _, at := range []func(many int) int{
		func(int) int { return 0 },
		func(many int) int { return many - 1 },
		func(many int) int { return many / 2 },
	} {
		n, l, others := netWith(t, net.Down, maxWaits)
		for len(l) > 0 {
			k := at(len(l))
			wantDelivered(t, n, net.Down, k, l[k])
			l = slices.Delete(l, k, k+1)
			wantWaiting(t, n, net.Down, l...)
		}
		wantRefused(t, n, net.Down, 0, 0, api.ErrNone)
		wantWaiting(t, n, net.Up, others...)
		mustSend(t, n, net.Down, "new")
		wantWaiting(t, n, net.Down, "new")
	}
}

// P11.2: of each place another one just like it waits behind all, but where 64 wait: ErrFull, and nothing is changed.
func TestDouble(t *testing.T) {
	for _, way := range bothWays() {
		for _, many := range fewAndMany() {
			for at := range many {
				n, l, others := netWith(t, way, many)
				if many == maxWaits {
					wantStays(t, n, "Double", func() { want(t, "Double where all wait", n.Double(way, at), api.ErrFull) })
					continue
				}
				want(t, "Double", n.Double(way, at), api.OK)
				wantWaiting(t, n, way, append(l, l[at])...)
				wantWaiting(t, n, 1-way, others...)
			}
		}
	}
}

// P11.2: what is full is one way alone, and no more when one is delivered.
func TestDoubleFull(t *testing.T) {
	n, l, others := netWith(t, net.Up, maxWaits-1)
	want(t, "Double with 63", n.Double(net.Up, 5), api.OK)
	want(t, "Double with 64", n.Double(net.Up, 5), api.ErrFull)
	want(t, "Double of the other way", n.Double(net.Down, 4), api.OK)
	wantDelivered(t, n, net.Up, 0, l[0])
	want(t, "Double with 63 again", n.Double(net.Up, 0), api.OK)
	want(t, "Double with 64 again", n.Double(net.Up, 0), api.ErrFull)
	wantWaiting(t, n, net.Up, append(l[1:], l[5], l[1])...)
	wantWaiting(t, n, net.Down, append(others, others[4])...)
}

// P11.2: where 64 wait, a place or a way that is none is told ahead of ErrFull.
func TestFullIsLast(t *testing.T) {
	n := netOf(t, grams("u", maxWaits), grams("d", maxWaits))
	for _, way := range bothWays() {
		want(t, "Double of no place", n.Double(way, maxWaits), api.ErrNone)
		want(t, "Double of a place below 0", n.Double(way, -1), api.ErrNone)
	}
	want(t, "Double of no way", n.Double(2, 0), api.ErrArg)
}

// P11.2: datagrams of all sizes are doubled, of none, too.
func TestDoubleSizes(t *testing.T) {
	for _, size := range []int{0, 1, 2, maxGram - 1, maxGram} {
		n := net.New()
		b := strings.Repeat("y", size)
		mustSend(t, n, net.Up, b)
		want(t, "Double", n.Double(net.Up, 0), api.OK)
		wantWaiting(t, n, net.Up, b, b)
	}
}

// P11.2: a bit that is turned of one of two that are alike leaves the other one.
func TestDoubleApart(t *testing.T) {
	for _, way := range bothWays() {
		for flipped := range 2 {
			n := net.New()
			mustSend(t, n, way, "ab")
			want(t, "Double", n.Double(way, 0), api.OK)
			want(t, "Flip", n.Flip(way, flipped, 1), api.OK)
			l := []string{"ab", "ab"}
			l[flipped] = "cb"
			wantWaiting(t, n, way, l...)
			want(t, "Double of a turned one", n.Double(way, flipped), api.OK)
			wantWaiting(t, n, way, l[0], l[1], "cb")
			wantDelivered(t, n, way, flipped, "cb")
			wantWaiting(t, n, way, "ab", "cb")
		}
	}
}

// turned tells b with a bit turned, by the words of the chapter.
func turned(b string, bit int) string {
	l := []byte(b)
	mask := byte(1)
	for range bit % 8 {
		mask *= 2
	}
	l[bit/8] ^= mask
	return string(l)
}

// P11.2: bits that are known: bit 0 is the lowest of the first byte.
func TestFlipKnown(t *testing.T) {
	for _, c := range []struct {
		b    string
		bit  int
		then string
	}{
		{"\x00", 0, "\x01"},
		{"\x00", 7, "\x80"},
		{"\xff", 0, "\xfe"},
		{"\xff", 7, "\x7f"},
		{"\x00\x00", 8, "\x00\x01"},
		{"\x00\x00", 15, "\x00\x80"},
		{"\x00\x00\x00", 7, "\x80\x00\x00"},
		{"\x00\x00\x00", 9, "\x00\x02\x00"},
		{"\x00\x00\x00", 16, "\x00\x00\x01"},
		{"\x00\x00\x00", 23, "\x00\x00\x80"},
		{"a", 1, "c"},
		{"a", 5, "A"},
	} {
		n := net.New()
		mustSend(t, n, net.Down, c.b)
		want(t, "Flip", n.Flip(net.Down, 0, c.bit), api.OK)
		wantWaiting(t, n, net.Down, c.then)
	}
}

// P11.2: each bit there is can be turned, which turns nothing else, and turned back.
func TestFlip(t *testing.T) {
	for _, way := range bothWays() {
		for _, size := range []int{1, 2, 3, maxGram - 1, maxGram} {
			b := strings.Repeat("\x5a", size)
			n := netOf(t, []string{"u", b, "v"}, []string{"u", b, "v"})
			bits := []int{0, 1, 6, 7, 8*size - 8, 8*size - 7, 8*size - 2, 8*size - 1, 4 * size}
			for _, bit := range bits {
				want(t, "Flip", n.Flip(way, 1, bit), api.OK)
				wantWaiting(t, n, way, "u", turned(b, bit), "v")
				wantWaiting(t, n, 1-way, "u", b, "v")
				want(t, "Flip again", n.Flip(way, 1, bit), api.OK)
				wantWaiting(t, n, way, "u", b, "v")
			}
		}
	}
}

// P11.2: bits turned one behind the other are all turned.
func TestFlipMany(t *testing.T) {
	n := netOf(t, []string{"\x00\x00"}, nil)
	for _, bit := range []int{0, 15, 3, 8, 0} {
		want(t, "Flip", n.Flip(net.Up, 0, bit), api.OK)
	}
	wantDelivered(t, n, net.Up, 0, "\x08\x81")
}

// P11.2: a datagram that has no such bit: ErrArg, and nothing is changed.
func TestFlipNoBit(t *testing.T) {
	for _, way := range bothWays() {
		for _, size := range []int{0, 1, 2, maxGram - 1, maxGram} {
			b := strings.Repeat("z", size)
			n := netOf(t, []string{"aaa", b, "bbb"}, []string{"aaa", b, "bbb"})
			for _, bit := range []int{-1, -2, -7, -8, -9, -8*size - 1, 8 * size, 8*size + 1, 8*size + 7, 8*size + 8, math.MinInt, math.MaxInt} {
				wantStays(t, n, fmt.Sprintf("Flip of bit %d", bit), func() {
					want(t, fmt.Sprintf("Flip of bit %d of %d bytes", bit, size), n.Flip(way, 1, bit), api.ErrArg)
				})
			}
		}
	}
}

// P11.2: what is turned is the datagram of that place as it stands now.
func TestFlipMoved(t *testing.T) {
	n := netOf(t, []string{"a", "b", "c"}, nil)
	want(t, "Flip", n.Flip(net.Up, 1, 7), api.OK)
	wantDelivered(t, n, net.Up, 0, "a")
	want(t, "Flip", n.Flip(net.Up, 1, 6), api.OK)
	wantWaiting(t, n, net.Up, "\xe2", "\x23")
}
