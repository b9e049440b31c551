package arq_test

import (
	"testing"

	"longwire/api"
)

// P8.3: what an end tells of itself, as it sends, and takes.
func TestCounts(t *testing.T) {
	c := config()
	c.Limit = 5
	e := endOf(t, c)
	for k, c := range []struct {
		do   func()
		want counts
	}{
		{func() {}, counts{left: 5}},
		{func() { wantSend(t, e, "a", 8, api.OK) }, counts{false, 1, 0, 4, 8, true}},
		{func() { wantSend(t, e, "b", 6, api.OK) }, counts{false, 2, 0, 3, 6, true}},
		{func() { e.Frames(5) }, counts{false, 2, 0, 3, 6, true}},
		{func() { e.Frames(6) }, counts{false, 2, 0, 3, 8, true}},
		{func() { wantTaken(t, e, dataOf(1, 0, 0, "y")) }, counts{true, 2, 1, 3, 8, true}},
		{func() { wantTaken(t, e, dataOf(3, 0, 0, "z")) }, counts{true, 2, 2, 3, 8, true}},
		{func() { e.Frames(7) }, counts{false, 2, 2, 3, 8, true}},
		{func() { e.Frames(8) }, counts{false, 2, 2, 3, 16, true}},
		{func() { wantTaken(t, e, dataOf(3, 0, 1, "z")) }, counts{true, 1, 2, 3, 18, true}},
		{func() { wantTaken(t, e, dataOf(0, 0, 1, "x"), "x", "y") }, counts{true, 1, 1, 3, 18, true}},
		{func() { wantTaken(t, e, ackOf(2, 0)) }, counts{true, 0, 1, 3, 0, false}},
		{func() { e.Frames(0) }, counts{false, 0, 1, 3, 0, false}},
		{func() { sendAll(t, e, 2, 5, 1<<40) }, counts{false, 3, 1, 0, 1 << 40, true}},
		{func() { wantTaken(t, e, dataOf(2, 5, 0, "w"), "w", "z") }, counts{true, 0, 0, 0, 0, false}},
		{func() { e.Frames(0) }, counts{}},
	} {
		c.do()
		for range 2 { // what is asked changes nothing
			if got := countsOf(e); got != c.want {
				t.Fatalf("step %d: counts %v, want %v", k, got, c.want)
			}
		}
	}
}

// P8.3, P5: the window keeps at most 16, and the intake at most 15, whatever is sent, and comes.
func TestBounds(t *testing.T) {
	e := endOf(t, config())
	for n := range uint32(100) {
		e.Send([]byte(payloadOf(n)), 5)
		wantTaken(t, e, dataOf(n+1, 0, 0, payloadOf(n)))
		wantCounts(t, e, counts{true, min(int(n)+1, 16), min(int(n)+1, 15), 1000 - min(n+1, 16), 5, true})
	}
}

// P8.3: a copy is as the first one is, at whatever place that is; none of both owes what the other one owes.
func TestCopy(t *testing.T) {
	e := endOf(t, config())
	for k, step := range []func(){
		func() {},
		func() { sendAll(t, e, 0, 4, 5) },
		func() { e.Frames(5) },
		func() { wantTaken(t, e, dataOf(1, 0, 0b10, "b")) },
		func() { wantTaken(t, e, dataOf(0, 1, 0, "a"), "a", "b") },
		func() { e.Frames(5) },
		func() { wantTaken(t, e, dataOf(9, 0, 0, "j")) },
		func() { e.Frames(15) },
		func() { wantTaken(t, e, ackOf(4, 0)) },
	} {
		step()
		if c := e.Copy(); c == nil || c == e {
			t.Fatalf("step %d: the copy is %p, the first one %p", k, c, e)
		}
		wantSame(t, e.Copy(), e)
		wantSame(t, e.Copy().Copy(), e)
	}
	wantCounts(t, e.Copy(), counts{false, 0, 1, 996, 0, false})
	wantFrames(t, e.Copy(), latest)
}

// P8.3: a copy has both keys, session and epoch: it sends as the first one does, and takes what that takes.
func TestCopyHasAll(t *testing.T) {
	c := underWay(t).Copy()
	wantSame(t, c, underWay(t))
	wantFrames(t, c, 18, dataOf(5, 3, 0b1001, payloadOf(5)))
	wantTaken(t, c, dataOf(3, 6, 0, "a3"), "a3", "a4")
	wantFrames(t, c, 18, ackOf(5, 0b10))
	for _, r := range allRefused() {
		wantTake(t, c, r.b, r.want)
	}
}
