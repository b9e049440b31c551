package mux_test

import (
	"math"
	"testing"

	"longwire/api"
	"longwire/mux"
)

// P10.1: a body goes in parts of 254 bytes, the last one marked; one of none in one part. Its price is spent.
func TestSendParts(t *testing.T) {
	for _, c := range []struct {
		long  int
		parts []int
	}{
		{0, []int{0}},
		{1, []int{1}},
		{253, []int{253}},
		{254, []int{254}},
		{255, []int{254, 1}},
		{508, []int{254, 254}},
		{509, []int{254, 254, 1}},
		{4063, []int{254, 254, 254, 254, 254, 254, 254, 254, 254, 254, 254, 254, 254, 254, 254, 253}},
		{4064, []int{254, 254, 254, 254, 254, 254, 254, 254, 254, 254, 254, 254, 254, 254, 254, 254}},
		{4095, []int{254, 254, 254, 254, 254, 254, 254, 254, 254, 254, 254, 254, 254, 254, 254, 254, 31}},
		{4096, []int{254, 254, 254, 254, 254, 254, 254, 254, 254, 254, 254, 254, 254, 254, 254, 254, 32}},
	} {
		for channel, b := range ownBenches(t, 8192) {
			x := message(channel, c.long)
			want(t, "Send", b.m.Send(x), api.OK)
			if got := b.m.Waits(); got != len(c.parts) {
				t.Fatalf("%d parts of %d bytes, want %d", got, c.long, len(c.parts))
			}
			if got := b.m.Left(channel); got != 8192-c.long-1 {
				t.Fatalf("%d is left behind %d bytes", got, c.long)
			}
			var payloads []string
			rest := string(x.Body)
			for k, n := range c.parts {
				last := byte(0)
				if k == len(c.parts)-1 {
					last = 1
				}
				payloads = append(payloads, part(channel, last, rest[:n]))
				rest = rest[n:]
			}
			first := min(16, len(payloads)) // as many as the end's window keeps
			b.wantSent(payloads[:first]...)
			b.wantSent(payloads[first:]...)
		}
	}
}

// ownBenches tells for each channel a bench of the side that sends on it.
func ownBenches(t *testing.T, limit int) map[int]*bench {
	t.Helper()
	return map[int]*bench{
		command: benchOf(t, mux.Up, limit),
		signal:  benchOf(t, mux.Up, limit),
		stdout:  benchOf(t, mux.Down, limit),
		stderr:  benchOf(t, mux.Down, limit),
		status:  benchOf(t, mux.Down, limit),
	}
}

// P10.1: a body of more than 4096 bytes is too long, however much may be spent, and changes nothing.
func TestSendTooLong(t *testing.T) {
	for _, limit := range []int{1, 4096, 8192} {
		for channel, b := range ownBenches(t, limit) {
			was := countsOf(b.m)
			for _, n := range []int{4097, 4098, 8191, 8192, 65535, 65536, 1 << 20} {
				want(t, "Send", b.m.Send(message(channel, n)), api.ErrLong)
			}
			wantCounts(t, b.m, was)
			b.wantSent()
		}
	}
}

// P10.1: a channel that is not one's own to send on is refused, and changes nothing.
func TestSendOnNoOwnChannel(t *testing.T) {
	for side, channels := range map[int][]int{mux.Up: {stdout, stderr, status}, mux.Down: {command, signal}} {
		b := benchOf(t, side, 300)
		was := countsOf(b.m)
		for _, channel := range append(channels, -1, 5, 6, 255, 256, 257, 258, 1<<32, 1<<32+2, math.MinInt, math.MaxInt) {
			want(t, "Send", b.m.Send(mux.Message{Channel: channel, Body: []byte("a")}), api.ErrArg)
			want(t, "Send of none", b.m.Send(mux.Message{Channel: channel}), api.ErrArg)
		}
		wantCounts(t, b.m, was)
		b.wantSent()
	}
}

// P10.1: a price that is just what is left is spent, and one more is not; that changes nothing (P10.5).
func TestSendPrice(t *testing.T) {
	for _, limit := range []int{1, 2, 3, 254, 255, 256, 300, 4096} {
		for channel, b := range ownBenches(t, limit) {
			was := countsOf(b.m)
			want(t, "Send of one more than is left", b.m.Send(message(channel, limit)), api.ErrBusy)
			wantCounts(t, b.m, was)
			want(t, "Send of just what is left", b.m.Send(message(channel, limit-1)), api.OK)
			was.left[channel], was.waits, was.idle = 0, (limit-1+253)/254, false
			was.waits = max(was.waits, 1)
			wantCounts(t, b.m, was)
			want(t, "Send of none", b.m.Send(message(channel, 0)), api.ErrBusy)
			want(t, "Send of 4096", b.m.Send(message(channel, 4096)), api.ErrBusy)
			wantCounts(t, b.m, was)
		}
	}
}

// P10.1: what is spent on a channel is not spent on another one.
func TestSendOnEachChannel(t *testing.T) {
	b := benchOf(t, mux.Down, 300)
	want(t, "Send", b.m.Send(message(stdout, 299)), api.OK)
	want(t, "Send", b.m.Send(message(stdout, 0)), api.ErrBusy)
	want(t, "Send", b.m.Send(message(status, 100)), api.OK)
	want(t, "Send", b.m.Send(message(stderr, 0)), api.OK)
	want(t, "Send", b.m.Send(message(status, 199)), api.ErrBusy)
	want(t, "Send", b.m.Send(message(status, 198)), api.OK)
	wantCounts(t, b.m, counts{left: lefts{stderr: 299}, waits: 5})
	all := append(partsOf(message(stdout, 299)), partsOf(message(status, 100))...)
	all = append(append(all, partsOf(message(stderr, 0))...), partsOf(message(status, 198))...)
	b.wantSent(all...)
}

// P10.1: what is sent first waits first, whatever its channel.
func TestSendInOrder(t *testing.T) {
	b := benchOf(t, mux.Up, 8192)
	var all []string
	for _, x := range []mux.Message{
		message(signal, 600), message(command, 0), message(signal, 3), message(command, 300),
	} {
		want(t, "Send", b.m.Send(x), api.OK)
		all = append(all, partsOf(x)...)
	}
	b.wantSent(all...)
}

// fill sends messages of so many parts, 254 bytes each.
func fill(t *testing.T, m *mux.Mux, channel int, parts ...int) {
	t.Helper()
	for _, n := range parts {
		want(t, "Send", m.Send(message(channel, 254*n)), api.OK)
	}
}

// P10.1: a row that has just 64 parts takes no more; one that would have more is refused, and nothing is changed (P10.5).
func TestSendMaxParts(t *testing.T) {
	for _, c := range []struct{ have, more int }{
		{64, 1}, {64, 16}, {63, 2}, {63, 16}, {60, 5}, {50, 15}, {49, 16}, {48, 17},
	} {
		b := benchOf(t, mux.Down, 8192)
		for k := range (c.have + 15) / 16 {
			fill(t, b.m, stdout+k/2, min(16, c.have-16*k))
		}
		was := countsOf(b.m)
		if was.waits != c.have {
			t.Fatalf("%d wait, want %d", was.waits, c.have)
		}
		more := min(254*c.more, 4096)
		want(t, "Send of too many parts", b.m.Send(message(status, more)), api.ErrBusy)
		wantCounts(t, b.m, was)
		if room := 64 - c.have; room > 0 {
			want(t, "Send of one byte more than there is room", b.m.Send(message(status, 254*room+1)), api.ErrBusy)
			wantCounts(t, b.m, was)
			want(t, "Send of as many as there is room", b.m.Send(message(status, 254*room)), api.OK)
		}
		want(t, "Send of a body of none", b.m.Send(message(status, 0)), api.ErrBusy)
		if got := b.m.Waits(); got != 64 {
			t.Fatalf("%d wait, want 64", got)
		}
	}
}

// P10.1: messages of none fill the row, too; what goes into the end makes room.
func TestSendMakesRoom(t *testing.T) {
	b := benchOf(t, mux.Up, 8192)
	for range 64 {
		fill(t, b.m, command, 0)
	}
	want(t, "Send", b.m.Send(message(command, 0)), api.ErrBusy)
	if l, err := b.m.Frames(0); len(l) != 16 || err != api.OK || b.m.Waits() != 48 {
		t.Fatalf("Frames tells %d, %d; %d wait", len(l), err, b.m.Waits())
	}
	want(t, "Send of 17 parts", b.m.Send(message(signal, 4096)), api.ErrBusy)
	want(t, "Send of 16 parts", b.m.Send(message(signal, 4064)), api.OK)
	wantCounts(t, b.m, counts{left: lefts{command: 8192 - 64, signal: 8192 - 4065}, waits: 64})
}

// P10.1: grants are no parts: a row with grants has 64 parts beside them.
func TestSendBesideGrants(t *testing.T) {
	b := benchOf(t, mux.Up, 8192)
	for _, channel := range []int{stdout, stderr, status} {
		b.take(partsOf(message(channel, 4095))...)
		want(t, "Use", b.m.Use(channel, 4096), api.OK)
	}
	if got := b.m.Waits(); got != 3 {
		t.Fatalf("%d grants wait, want 3", got)
	}
	for range 64 {
		fill(t, b.m, signal, 0)
	}
	want(t, "Send", b.m.Send(message(signal, 0)), api.ErrBusy)
	if got := b.m.Waits(); got != 67 {
		t.Fatalf("%d wait, want 67", got)
	}
}

// P10.1: of several errors the chapter's first one is told, and nothing is changed.
func TestSendErrorsAtOnce(t *testing.T) {
	b := benchOf(t, mux.Up, 300)
	want(t, "Send", b.m.Send(message(command, 299)), api.OK)
	was := countsOf(b.m)
	want(t, "Send: channel, long, busy", b.m.Send(message(stdout, 4097)), api.ErrArg)
	want(t, "Send: channel, busy", b.m.Send(message(-1, 300)), api.ErrArg)
	want(t, "Send: long, busy", b.m.Send(message(command, 4097)), api.ErrLong)
	want(t, "Send: busy", b.m.Send(message(command, 4096)), api.ErrBusy)
	wantCounts(t, b.m, was)
	if _, err := b.atOnce(""); err != api.ErrForm {
		t.Fatalf("Take is %d", err)
	}
	was.broken = true
	want(t, "Send: broken, channel, long", b.m.Send(message(stdout, 4097)), api.ErrState)
	want(t, "Send: broken, channel", b.m.Send(message(9, 1)), api.ErrState)
	want(t, "Send: broken, long", b.m.Send(message(command, 4097)), api.ErrState)
	want(t, "Send: broken, busy", b.m.Send(message(command, 1)), api.ErrState)
	want(t, "Send: broken", b.m.Send(message(signal, 1)), api.ErrState)
	wantCounts(t, b.m, was)
}

// P10.1: a row that is full, and a price that is too high, at once: nothing is spent, and nothing waits.
func TestSendBusyInBothWays(t *testing.T) {
	b := benchOf(t, mux.Up, 64)
	for range 64 {
		fill(t, b.m, command, 0)
	}
	was := countsOf(b.m)
	want(t, "Send: both", b.m.Send(message(command, 0)), api.ErrBusy)
	want(t, "Send: the row", b.m.Send(message(signal, 0)), api.ErrBusy)
	want(t, "Send: both", b.m.Send(message(signal, 64)), api.ErrBusy)
	wantCounts(t, b.m, was)
	if was.left[signal] != 64 || was.left[command] != 0 || was.waits != 64 {
		t.Fatalf("counts %v", was)
	}
}
