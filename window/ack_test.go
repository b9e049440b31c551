package window_test

import (
	"math"
	"slices"
	"testing"

	"longwire/api"
	"longwire/window"
)

// keptOf tells the numbers of what a window keeps, by rising numbers.
func keptOf(w *window.Window) []uint32 {
	c := w.Copy()
	var l []uint32
	for _, it := range c.Due(latest) {
		l = append(l, it.Number)
	}
	return l
}

// wantKept holds the numbers of what is kept against what they must be; nothing of it waits behind MaxTicks.
func wantKept(t *testing.T, w *window.Window, want ...uint32) {
	t.Helper()
	if got := keptOf(w); !slices.Equal(got, want) || w.Len() != len(want) || w.Bytes() != 3*len(want) {
		t.Fatalf("kept %d, Len %d, Bytes %d, want %d", got, w.Len(), w.Bytes(), want)
	}
}

// P6.2: acks without a mask: all below, and none else, is dropped; an ack above the next number tells nothing.
func TestAck(t *testing.T) {
	for _, c := range []struct {
		ack  uint32
		want []uint32
	}{
		{0, []uint32{0, 1, 2, 3, 4, 5}},
		{1, []uint32{1, 2, 3, 4, 5}},
		{3, []uint32{3, 4, 5}},
		{5, []uint32{5}},
		{6, nil},
		{7, []uint32{0, 1, 2, 3, 4, 5}},
		{8, []uint32{0, 1, 2, 3, 4, 5}},
		{1000, []uint32{0, 1, 2, 3, 4, 5}},
		{1 << 31, []uint32{0, 1, 2, 3, 4, 5}},
		{math.MaxUint32, []uint32{0, 1, 2, 3, 4, 5}},
	} {
		w := filled(t, 6)
		wantAck(t, w, c.ack, 0, 6-len(c.want))
		wantKept(t, w, c.want...)
		wantAck(t, w, c.ack, 0, 0)
		wantKept(t, w, c.want...)
	}
}

// P6.2: masks: of no bit, of some, and of all; the number of the ack itself is not told, nor are those never given.
func TestAckMask(t *testing.T) {
	for _, c := range []struct {
		ack, mask uint32
		want      []uint32
	}{
		{0, 1, []uint32{0, 2, 3, 4, 5}},
		{0, 0b10101, []uint32{0, 2, 4}},
		{0, math.MaxUint32, []uint32{0}},
		{0, 1 << 4, []uint32{0, 1, 2, 3, 4}},
		{0, 1 << 5, []uint32{0, 1, 2, 3, 4, 5}},
		{0, 1 << 31, []uint32{0, 1, 2, 3, 4, 5}},
		{2, 1, []uint32{2, 4, 5}},
		{2, 0b110, []uint32{2, 3}},
		{2, math.MaxUint32, []uint32{2}},
		{4, 1, []uint32{4}},
		{5, 0, []uint32{5}},
		{5, math.MaxUint32, []uint32{5}},
		{6, math.MaxUint32, nil},
		{7, math.MaxUint32, []uint32{0, 1, 2, 3, 4, 5}},
		{7, 1, []uint32{0, 1, 2, 3, 4, 5}},
		{1 << 31, math.MaxUint32, []uint32{0, 1, 2, 3, 4, 5}},
		{math.MaxUint32 - 16, math.MaxUint32, []uint32{0, 1, 2, 3, 4, 5}},
		{math.MaxUint32, math.MaxUint32, []uint32{0, 1, 2, 3, 4, 5}},
	} {
		w := filled(t, 6)
		wantAck(t, w, c.ack, c.mask, 6-len(c.want))
		wantKept(t, w, c.want...)
		wantAck(t, w, c.ack, c.mask, 0)
		wantKept(t, w, c.want...)
	}
}

// P6.2: each one bit of a mask tells one number, at each ack.
func TestAckOneBit(t *testing.T) {
	for many := range 17 {
		for ack := range uint32(20) {
			for k := range uint32(32) {
				w := filled(t, many)
				var want []uint32
				for n := range uint32(many) {
					if ack > uint32(many) || n >= ack && n != ack+1+k {
						want = append(want, n)
					}
				}
				wantAck(t, w, ack, 1<<k, many-len(want))
				wantKept(t, w, want...)
			}
		}
	}
}

// P6.2: a mask reaches 32 numbers behind its ack, and not one more.
func TestAckMaskReaches(t *testing.T) {
	w := windowOf(t, 100, 10, 30)
	putAll(t, w, 16, 5)
	wantAck(t, w, 0, 0x7fff, 15) // all but 0
	putAll(t, w, 15, 5)
	wantAck(t, w, 0, 0x3fffffff, 15)
	putAll(t, w, 3, 5) // 31, 32, 33
	wantKept(t, w, 0, 31, 32, 33)
	wantAck(t, w, 0, 1<<29, 0)
	wantAck(t, w, 0, math.MaxUint32, 2)
	wantKept(t, w, 0, 33)
	wantAck(t, w, 0, math.MaxUint32, 0)
	wantAck(t, w, 1, 1<<30, 1)
	wantKept(t, w, 33)
	wantAck(t, w, 1, 1<<31, 1)
	wantKept(t, w)
}

// P6.2: what was acknowledged is not counted again, nor what was never given; numbers given later are not told by an earlier ack.
func TestAckAgain(t *testing.T) {
	w := filled(t, 8)
	wantAck(t, w, 2, 0b100, 3) // 0, 1, 5
	wantKept(t, w, 2, 3, 4, 6, 7)
	wantAck(t, w, 2, 0b100, 0)
	wantAck(t, w, 1, 0, 0)     // an older ack
	wantAck(t, w, 2, 0b110, 1) // 4, and 5 again
	wantKept(t, w, 2, 3, 6, 7)
	wantAck(t, w, 7, 0, 3)
	wantAck(t, w, 9, 0, 0) // above the next number
	wantAck(t, w, 8, math.MaxUint32, 1)
	wantKept(t, w)
	putAll(t, w, 2, 5)
	wantKept(t, w, 8, 9)
	wantAck(t, w, 8, 0, 0)
	wantAck(t, w, 8, 1, 1)
	wantKept(t, w, 8)
	wantAck(t, w, 9, 0, 1)
	wantAck(t, w, 10, 0, 0)
	wantCounts(t, w, counts{next: 10, left: 990})
}

// P6.2: at the last number the next number is the limit: an ack of it tells all, one above it nothing.
func TestAckAtTheLimit(t *testing.T) {
	w := windowOf(t, 4, 10, 30)
	putAll(t, w, 4, 5)
	wantAck(t, w, 5, math.MaxUint32, 0)
	wantKept(t, w, 0, 1, 2, 3)
	wantAck(t, w, 3, 1, 3)
	wantAck(t, w, 4, 0, 1)
	wantCounts(t, w, counts{next: 4})
}

// P6.2: an ack changes nothing of those that it does not tell: their ticks and Tries are as before.
func TestAckLeavesOthers(t *testing.T) {
	w := filled(t, 6)
	wantDue(t, w, 5, 1, 0, 1, 2, 3, 4, 5)
	wantDue(t, w, 15, 2, 0, 1, 2, 3, 4, 5)
	wantAck(t, w, 2, 0b010, 3)
	wantWakes(t, w, 35)
	wantDue(t, w, 34, 0)
	wantDue(t, w, 35, 3, 2, 3, 5)
	wantAck(t, w, 7, math.MaxUint32, 0)
	wantDue(t, w, 64, 0)
	wantDue(t, w, 65, 4, 2, 3, 5)
}

// P6.4: what was put and not told as had is due again and again, with its payload; what was told is due no more.
func TestNoneIsLost(t *testing.T) {
	for _, told := range []uint32{0, 0b1, 0b10101, 0b111110, math.MaxUint32} {
		w := filled(t, 16)
		var left []uint32
		for n := range uint32(16) {
			if n == 0 || told>>(n-1)&1 == 0 {
				left = append(left, n)
			}
		}
		wantAck(t, w, 0, told, 16-len(left))
		now := int64(5)
		for k := range 200 {
			wantDue(t, w, now, k+1, left...)
			now, _ = w.Wakes()
		}
	}
}

// P6.4: of a stream over a way that loses most of what is sent and told, all comes, each with its payload, and at most 16 are kept.
func TestAllComesAtLast(t *testing.T) {
	const many = 500
	w := windowOf(t, many, 10, 30)
	had := map[uint32]bool{}
	floor, sends := uint32(0), uint32(0)
	for now := int64(0); floor < many || w.Len() > 0; now++ {
		if now > 1<<20 {
			t.Fatalf("%d of %d came, %d are kept", floor, many, w.Len())
		}
		for w.Len() < 16 && w.Left() > 0 {
			putAll(t, w, 1, now)
		}
		if n, e := w.Put(nil, now); e == api.OK || w.Len() > 16 {
			t.Fatalf("at %d: %d, %d, %d are kept", now, n, e, w.Len())
		}
		for _, it := range w.Due(now) {
			if !slices.Equal(it.Payload, payloadOf(it.Number)) {
				t.Fatalf("at %d: %v", now, it)
			}
			if sends++; sends%3 == 1 {
				had[it.Number] = true
			}
		}
		for had[floor] {
			floor++
		}
		mask := uint32(0)
		for k := range uint32(32) {
			if had[floor+1+k] {
				mask |= 1 << k
			}
		}
		if now%7 == 0 {
			w.Ack(floor, mask)
		}
	}
	wantCounts(t, w, counts{next: many})
}
