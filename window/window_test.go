package window_test

import (
	"bytes"
	"math"
	"slices"
	"testing"

	"longwire/api"
	"longwire/window"
)

// latest is the latest tick that there is.
const latest = 1 << 40

// counts is what a window tells of itself.
type counts struct {
	length, bytes int
	next, left    uint32
	wakes         int64
	any           bool
}

// noWindows tells windows that are none: nil, and those that New did not make.
func noWindows() []*window.Window {
	var declared window.Window
	return []*window.Window{nil, {}, new(window.Window), &declared}
}

// windowOf tells a window, which must be OK.
func windowOf(t *testing.T, limit uint32, first, most int64) *window.Window {
	t.Helper()
	w, e := window.New(limit, first, most)
	if e != api.OK || w == nil {
		t.Fatalf("New(%d, %d, %d): %v, %d, want a window, OK", limit, first, most, w, e)
	}
	return w
}

// payloadOf tells a payload that tells its number.
func payloadOf(n uint32) []byte {
	return []byte{'p', byte(n >> 8), byte(n)}
}

// putAll puts as many payloads at now, each of which must be OK.
func putAll(t *testing.T, w *window.Window, many int, now int64) {
	t.Helper()
	for range many {
		next := w.Next()
		wantPut(t, w, payloadOf(next), now, next, api.OK)
	}
}

// filled tells a window of first 10, most 30, that keeps the payloads of the numbers 0, 1, .., as many, put at 5.
func filled(t *testing.T, many int) *window.Window {
	t.Helper()
	w := windowOf(t, 1000, 10, 30)
	putAll(t, w, many, 5)
	return w
}

// wantPut holds what Put tells against what it must tell.
func wantPut(t *testing.T, w *window.Window, payload []byte, now int64, want uint32, e api.Errno) {
	t.Helper()
	if n, got := w.Put(payload, now); n != want || got != e {
		t.Fatalf("Put of %d bytes at %d: %d, %d, want %d, %d", len(payload), now, n, got, want, e)
	}
}

// wantAck holds what Ack tells against what it must tell.
func wantAck(t *testing.T, w *window.Window, ack, mask uint32, want int) {
	t.Helper()
	if got := w.Ack(ack, mask); got != want {
		t.Fatalf("Ack of %d and %08x: %d, want %d", ack, mask, got, want)
	}
}

// wantItems holds items against what they must be.
func wantItems(t *testing.T, got, want []window.Item) {
	t.Helper()
	same := func(a, b window.Item) bool {
		return a.Number == b.Number && a.Tries == b.Tries && bytes.Equal(a.Payload, b.Payload)
	}
	if !slices.EqualFunc(got, want, same) {
		t.Fatalf("items %v, want %v", got, want)
	}
}

// wantDue asks that at now just these numbers are due, each for that time, with their payloads of payloadOf.
func wantDue(t *testing.T, w *window.Window, now int64, tries int, numbers ...uint32) {
	t.Helper()
	var want []window.Item
	for _, n := range numbers {
		want = append(want, window.Item{Number: n, Payload: payloadOf(n), Tries: tries})
	}
	wantItems(t, w.Due(now), want)
}

// countsOf tells what a window tells of itself.
func countsOf(w *window.Window) counts {
	wakes, any := w.Wakes()
	return counts{w.Len(), w.Bytes(), w.Next(), w.Left(), wakes, any}
}

// wantCounts holds what a window tells of itself against what it must be.
func wantCounts(t *testing.T, w *window.Window, want counts) {
	t.Helper()
	if got := countsOf(w); got != want {
		t.Fatalf("counts %v, want %v", got, want)
	}
}

// wantWakes asks that something is due at the earliest then.
func wantWakes(t *testing.T, w *window.Window, want int64) {
	t.Helper()
	if got, any := w.Wakes(); got != want || !any {
		t.Fatalf("Wakes: %d, %v, want %d, true", got, any, want)
	}
}

// P6.1: New takes limits of 1 to 2^31, and no others.
func TestNewLimit(t *testing.T) {
	for _, limit := range []uint32{1, 2, 15, 16, 17, 65536, 1<<31 - 1, 1 << 31} {
		wantCounts(t, windowOf(t, limit, 10, 30), counts{left: limit})
	}
	for _, limit := range []uint32{0, 1<<31 + 1, 3 << 30, math.MaxUint32} {
		if w, e := window.New(limit, 10, 30); w != nil || e != api.ErrArg {
			t.Errorf("New(%d, 10, 30): %v, %d, want none, ErrArg", limit, w, e)
		}
	}
}

// P6.1: New takes a first of 1 to most, and a most of first to MaxTicks, and no others.
func TestNewWaits(t *testing.T) {
	for _, c := range [][2]int64{
		{1, 1}, {1, 2}, {2, 2}, {1, latest}, {10, 30}, {30, 30}, {latest - 1, latest - 1},
		{latest - 1, latest}, {latest, latest}, {1, latest - 1},
	} {
		wantCounts(t, windowOf(t, 16, c[0], c[1]), counts{left: 16})
	}
	for _, c := range [][2]int64{
		{0, 0}, {0, 1}, {0, 30}, {-1, -1}, {-1, 1}, {-1, 30}, {-30, -10}, {1, 0}, {1, -1}, {2, 1}, {31, 30}, {0, latest},
		{1, latest + 1}, {latest, latest - 1}, {latest, latest + 1}, {latest + 1, latest}, {latest + 1, latest + 1},
		{math.MinInt64, math.MaxInt64}, {math.MinInt64, 30}, {10, math.MinInt64}, {1, math.MaxInt64},
		{math.MaxInt64, math.MaxInt64}, {math.MinInt64, math.MinInt64}, {math.MaxInt64, 30}, {0, latest + 1},
	} {
		for _, limit := range []uint32{0, 1, 16, 1 << 31, 1<<31 + 1} {
			if w, e := window.New(limit, c[0], c[1]); w != nil || e != api.ErrArg {
				t.Errorf("New(%d, %d, %d): %v, %d, want none, ErrArg", limit, c[0], c[1], w, e)
			}
		}
	}
}

// P6.3: of none, and of a window that New did not make, all is nothing, however often it is asked.
func TestNoWindow(t *testing.T) {
	for _, w := range noWindows() {
		for range 3 {
			wantCounts(t, w, counts{})
			for _, now := range []int64{math.MinInt64, -1, 0, 5, latest, math.MaxInt64} {
				wantItems(t, w.Due(now), nil)
				wantPut(t, w, payloadOf(0), now, 0, api.ErrNil)
			}
			for _, ack := range []uint32{0, 1, math.MaxUint32} {
				wantAck(t, w, ack, 0, 0)
				wantAck(t, w, ack, math.MaxUint32, 0)
			}
			if c := w.Copy(); c != nil {
				t.Errorf("Copy: %v, want none", c)
			}
			wantCounts(t, w, counts{})
		}
	}
}

// P6.3: an empty window keeps nothing, and nothing is due, also one that is empty again.
func TestEmptyWindow(t *testing.T) {
	w := windowOf(t, 20, 10, 30)
	for _, many := range []int{0, 1, 16, 3} {
		putAll(t, w, many, 7)
		wantAck(t, w, w.Next(), 0, many)
		want := counts{next: w.Next(), left: 20 - w.Next()}
		for range 3 {
			wantCounts(t, w, want)
			wantItems(t, w.Due(latest), nil)
			wantAck(t, w, w.Next(), math.MaxUint32, 0)
			wantCounts(t, w.Copy(), want)
		}
	}
	wantCounts(t, w, counts{next: 20})
}

// P6.3: what a window with items tells of itself, as it is filled, sent, and acknowledged.
func TestCounts(t *testing.T) {
	w := windowOf(t, 5, 10, 30)
	for k, c := range []struct {
		do   func()
		want counts
	}{
		{func() {}, counts{left: 5}},
		{func() { wantPut(t, w, nil, 8, 0, api.OK) }, counts{1, 0, 1, 4, 8, true}},
		{func() { wantPut(t, w, make([]byte, 256), 6, 1, api.OK) }, counts{2, 256, 2, 3, 6, true}},
		{func() { wantPut(t, w, make([]byte, 3), 9, 2, api.OK) }, counts{3, 259, 3, 2, 6, true}},
		{func() { w.Due(7) }, counts{3, 259, 3, 2, 8, true}},
		{func() { w.Due(8) }, counts{3, 259, 3, 2, 9, true}},
		{func() { w.Due(9) }, counts{3, 259, 3, 2, 17, true}},
		{func() { wantAck(t, w, 0, 1, 1) }, counts{2, 3, 3, 2, 18, true}},
		{func() { wantPut(t, w, make([]byte, 40), 0, 3, api.OK) }, counts{3, 43, 4, 1, 0, true}},
		{func() { wantAck(t, w, 1, 0, 1) }, counts{2, 43, 4, 1, 0, true}},
		{func() { wantAck(t, w, 2, 1, 1) }, counts{1, 3, 4, 1, 19, true}},
		{func() { wantPut(t, w, nil, 1<<40, 4, api.OK) }, counts{2, 3, 5, 0, 19, true}},
		{func() { wantAck(t, w, 3, 0, 1) }, counts{1, 0, 5, 0, 1 << 40, true}},
		{func() { wantAck(t, w, 5, 0, 1) }, counts{next: 5}},
	} {
		c.do()
		for range 2 { // what is asked changes nothing
			if got := countsOf(w); got != c.want {
				t.Fatalf("step %d: counts %v, want %v", k, got, c.want)
			}
		}
	}
}
