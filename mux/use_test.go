package mux_test

import (
	"math"
	"testing"

	"longwire/api"
	"longwire/mux"
)

// P10.3: just what is held may be used, at once or bit by bit, and not one more; what is refused changes nothing.
func TestUse(t *testing.T) {
	for _, channel := range []int{stdout, stderr, status} {
		b := benchOf(t, mux.Up, 300)
		want(t, "Use of what was not taken", b.m.Use(channel, 1), api.ErrArg)
		want(t, "Use of none", b.m.Use(channel, 0), api.OK)
		b.take(partsOf(message(channel, 99))...)
		was := countsOf(b.m)
		if was.held[channel] != 100 {
			t.Fatalf("%d is held, want 100", was.held[channel])
		}
		for _, n := range []int{101, 102, 300, 8192, 1 << 32, 1<<32 + 1, math.MaxInt, -1, -100, math.MinInt} {
			want(t, "Use", b.m.Use(channel, n), api.ErrArg)
			wantCounts(t, b.m, was)
		}
		want(t, "Use of none", b.m.Use(channel, 0), api.OK)
		wantCounts(t, b.m, was)
		want(t, "Use of one", b.m.Use(channel, 1), api.OK)
		want(t, "Use of one more than is held", b.m.Use(channel, 100), api.ErrArg)
		want(t, "Use of just what is held", b.m.Use(channel, 99), api.OK)
		was.held[channel] = 0
		wantCounts(t, b.m, was)
		want(t, "Use of one more", b.m.Use(channel, 1), api.ErrArg)
		want(t, "Use of none", b.m.Use(channel, 0), api.OK)
		b.wantSent()
	}
}

// P10.3: a channel that is not the other side's is not used, not even none of it.
func TestUseOfNoOtherChannel(t *testing.T) {
	for side, channels := range map[int][]int{mux.Up: {command, signal}, mux.Down: {stdout, stderr, status}} {
		b := benchOf(t, side, 300)
		for _, channel := range channels {
			want(t, "Send", b.m.Send(message(channel, 9)), api.OK)
		}
		was := countsOf(b.m)
		for _, channel := range append(channels, -1, 5, 6, 255, 256, 1<<32, 1<<32+2, math.MinInt, math.MaxInt) {
			for _, n := range []int{0, 1, 10, -1, math.MinInt, math.MaxInt} {
				want(t, "Use", b.m.Use(channel, n), api.ErrArg)
			}
		}
		wantCounts(t, b.m, was)
	}
}

// P10.3: what is held of a channel is not used of another one.
func TestUseOfEachChannel(t *testing.T) {
	b := benchOf(t, mux.Up, 300)
	b.take(partsOf(message(stdout, 9))...)
	b.take(partsOf(message(status, 19))...)
	want(t, "Use", b.m.Use(stdout, 11), api.ErrArg)
	want(t, "Use", b.m.Use(stderr, 1), api.ErrArg)
	want(t, "Use", b.m.Use(status, 15), api.OK)
	wantCounts(t, b.m, counts{left: lefts{command: 300, signal: 300}, held: lefts{stdout: 10, status: 5}, idle: true})
}

// P10.3: a grant that is just due waits, and one that is just not does not: half the limit, the lower half, but at least 1.
func TestUseMakesAGrantDue(t *testing.T) {
	for _, c := range []struct{ limit, half int }{{1, 1}, {2, 1}, {3, 1}, {4, 2}, {5, 2}, {299, 149}, {300, 150}, {301, 150}, {4096, 2048}} {
		b := benchOf(t, mux.Down, c.limit)
		b.take(partsOf(message(command, c.limit-1))...)
		for used := 1; used < c.half; used++ {
			want(t, "Use", b.m.Use(command, 1), api.OK)
			if !b.m.Idle() || b.m.Waits() != 0 {
				t.Fatalf("limit %d: behind %d a grant waits", c.limit, used)
			}
		}
		b.wantSent()
		want(t, "Use of none", b.m.Use(command, 0), api.OK)
		if !b.m.Idle() {
			t.Fatalf("limit %d: a grant waits", c.limit)
		}
		want(t, "Use", b.m.Use(command, 1), api.OK)
		if b.m.Idle() || b.m.Waits() != 1 {
			t.Fatalf("limit %d: behind %d no grant waits", c.limit, c.half)
		}
		b.wantSent(grant(command, uint64(c.limit+c.half)))
		if !b.m.Idle() || b.m.Waits() != 0 {
			t.Fatalf("limit %d: it is not idle", c.limit)
		}
	}
}

// P10.3: a use that is refused, or of none, makes no grant wait, though one was due once.
func TestUseThatIsRefusedGrantsNothing(t *testing.T) {
	b := benchOf(t, mux.Up, 300)
	b.take(partsOf(message(stdout, 299))...)
	want(t, "Use", b.m.Use(stdout, 149), api.OK)
	want(t, "Use", b.m.Use(stdout, 152), api.ErrArg)
	want(t, "Use", b.m.Use(stdout, -1), api.ErrArg)
	want(t, "Use", b.m.Use(stderr, 1), api.ErrArg)
	b.wantSent()
	want(t, "Use", b.m.Use(stdout, 2), api.OK)
	b.wantSent(grant(stdout, 451))
	want(t, "Use", b.m.Use(stdout, 148), api.OK)
	want(t, "Use", b.m.Use(stdout, 0), api.OK)
	b.wantSent()
	want(t, "Use", b.m.Use(stdout, 1), api.OK)
	b.wantSent()
	if got := b.m.Held(stdout); got != 0 {
		t.Errorf("%d is held", got)
	}
}

// P10.3: idle is where nothing waits, in the row, or in the window: each alone, and both, are enough not to be.
func TestIdle(t *testing.T) {
	b := benchOf(t, mux.Up, 300)
	wantIdle := func(idle bool, waits int) {
		t.Helper()
		for range 2 {
			if b.m.Idle() != idle || b.m.Waits() != waits {
				t.Fatalf("Idle is %t, %d wait, want %t, %d", b.m.Idle(), b.m.Waits(), idle, waits)
			}
		}
	}
	wantIdle(true, 0)
	want(t, "Send", b.m.Send(message(command, 260)), api.OK)
	wantIdle(false, 2) // a row
	l, _ := b.m.Frames(0)
	wantIdle(false, 0) // a window
	want(t, "Send", b.m.Send(message(command, 0)), api.OK)
	wantIdle(false, 1) // both
	for _, d := range l {
		b.other.Take(d)
	}
	acks := b.other.Frames(0)
	b.m.Take(acks[0])
	wantIdle(false, 1) // a row again
	b.wantSent(partsOf(message(command, 0))...)
	wantIdle(true, 0) // none
	b.own.Send([]byte("x"), 0)
	wantIdle(false, 0) // what others sent
	b.wantSent("x")
	wantIdle(true, 0)
	b.m.Take(b.in(part(stdout, 0, "a"), part(stdout, 1, "b"))[1])
	wantIdle(true, 0) // what came ahead of its turn, and an ack that is owed
	b.now = 10        // what was lost is due again
	b.take(partsOf(message(status, 299))...)
	want(t, "Use", b.m.Use(status, 300), api.OK)
	wantIdle(false, 1) // a grant
	b.m.Frames(0)
	wantIdle(false, 0) // a grant in the window
}

// P10.5: what was used may be spent again, far beyond the limit, however it is parted.
func TestSpentAgain(t *testing.T) {
	for _, limit := range []int{1, 2, 3, 300, 8192} {
		up, down := lineOf(t, limit)
		sent := 0
		for sent < 8*limit+10 {
			n := min((limit-1)/2, 4096)
			for _, c := range []int{command, signal} {
				want(t, "Send", up.m.Send(message(c, n)), api.OK)
			}
			for range 4 {
				for _, x := range through(t, up, down) {
					want(t, "Use", down.m.Use(x.Channel, len(x.Body)+1), api.OK)
				}
			}
			wantMessages(t, through(t, down, up))
			sent += n + 1
		}
		if up.m.Left(command) < (limit+1)/2 || !up.m.Idle() || !down.m.Idle() {
			t.Fatalf("limit %d: %d is left", limit, up.m.Left(command))
		}
	}
}

// P10.5: one that uses nothing holds at most the limit, of each channel, however much is asked.
func TestHeldAtMost(t *testing.T) {
	for _, limit := range []int{1, 7, 300, 8192} {
		up, down := lineOf(t, limit)
		for n := range 200 {
			for _, channel := range []int{stdout, stderr, status} {
				down.m.Send(message(channel, n%5))
			}
			through(t, down, up)
			for _, channel := range []int{stdout, stderr, status} {
				if held, left := up.m.Held(channel), down.m.Left(channel); held+left != limit {
					t.Fatalf("limit %d: %d is held, %d left", limit, held, left)
				}
			}
		}
	}
}
