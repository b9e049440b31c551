package mux_test

import (
	"math"
	"testing"

	"longwire/api"
	"longwire/mux"
)

// breaks is payloads of which the last one breaks the stream, of a mux of the side Up and the limit 300 that spent 100 on command, and nothing else.
type breaks struct {
	name     string
	payloads []string
}

// breaksByForm tells payloads that are neither parts nor grants.
func breaksByForm() []breaks {
	l := []breaks{
		{"no byte", []string{""}},
		{"one byte", []string{"\x02"}},
		{"one byte, 0", []string{"\x00"}},
		{"one byte, 5", []string{"\x05"}},
		{"no byte, in a message", []string{part(stdout, 0, "a"), ""}},
		{"one byte, in a message", []string{part(stdout, 0, "a"), "\x02"}},
	}
	for _, second := range []byte{2, 3, 5, 127, 128, 129, 255} {
		l = append(l, breaks{"another second byte", []string{part(stdout, second, "a")}})
		l = append(l, breaks{"another second byte, of none", []string{part(status, second, "")}})
	}
	for _, channel := range []int{command, signal, 6, 7, 128, 130, 255} {
		l = append(l, breaks{"no channel of the other side", []string{part(channel, 1, "a")}})
		l = append(l, breaks{"no channel of the other side, not whole", []string{part(channel, 0, "a")}})
		l = append(l, breaks{"no channel of the other side, of none", []string{part(channel, 1, "")}})
	}
	return l
}

// breaksByGrant tells grants that may not be.
func breaksByGrant() []breaks {
	l := []breaks{
		{"a grant without a channel", []string{"\x05"}},
		{"a grant without a total", []string{"\x05\x00"}},
		{"a grant like a part", []string{"\x05\x01abc"}},
		{"a grant of 301 above 100", []string{grant(command, 401)}},
		{"a grant above the limit", []string{grant(signal, 301)}},
		{"a grant of 2^32", []string{grant(command, 1<<32)}},
		{"a grant of 2^32 and 400", []string{grant(command, 1<<32+400)}},
		{"the highest grant", []string{grant(command, math.MaxUint64)}},
		{"a grant that was refused, behind one that was not", []string{grant(command, 400), grant(command, 401)}},
	}
	for _, channel := range []int{stdout, stderr, status, 5, 6, 128, 255} {
		l = append(l, breaks{"a grant of no channel of one's own", []string{grant(channel, 300)}})
		l = append(l, breaks{"a grant of 0, of no channel of one's own", []string{grant(channel, 0)}})
	}
	whole := grant(command, 300)
	for n := range len(whole) {
		l = append(l, breaks{"a grant of too few bytes", []string{whole[:n]}})
	}
	for _, more := range []string{"\x00", "\x01", "\x00\x00\x00\x00\x00\x00\x00\x00\x00\x00", long(246)} {
		l = append(l, breaks{"a grant of too many bytes", []string{whole + more}})
	}
	return l
}

// breaksByMessage tells rows of parts that are no messages.
func breaksByMessage() []breaks {
	return []breaks{
		{"more than was granted", partsOf(message(stdout, 300))},
		{"more than was granted, at the last part", append(partsOf(message(stdout, 298)), part(stdout, 1, "a"))},
		{"more than was granted, by the price of none", append(partsOf(message(stdout, 299)), part(stdout, 1, ""))},
		{"more than was granted, of a last part of none", []string{part(stdout, 0, long(254)), part(stdout, 0, long(46)), part(stdout, 1, "")}},
		{"another channel in a message", []string{part(stdout, 0, "a"), part(stderr, 1, "b")}},
		{"another channel in a message, not whole", []string{part(stdout, 0, "a"), part(status, 0, "b")}},
		{"another channel behind a part of none", []string{part(stderr, 0, ""), part(stdout, 1, "b")}},
		{"another channel in the second message", []string{part(stdout, 1, "a"), part(stderr, 0, ""), part(stdout, 1, "")}},
		{"another channel, of none, behind a grant", []string{part(stderr, 0, "a"), grant(command, 300), part(status, 1, "")}},
		{"no channel, in a message", []string{part(stdout, 0, "a"), part(command, 1, "b")}},
	}
}

// spent tells a bench of the side Up and the limit 300 that sent 99 bytes on command.
func spent(t *testing.T) *bench {
	t.Helper()
	b := benchOf(t, mux.Up, 300)
	want(t, "Send", b.m.Send(message(command, 99)), api.OK)
	b.wantSent(partsOf(message(command, 99))...)
	return b
}

// P10.2: each way in which a stream breaks, by itself: all ahead of it is OK, and behind it nothing is taken any more.
func TestBreaks(t *testing.T) {
	for _, c := range append(append(breaksByForm(), breaksByGrant()...), breaksByMessage()...) {
		b := spent(t)
		last := len(c.payloads) - 1
		for _, p := range c.payloads[:last] {
			b.take(p)
		}
		was := countsOf(b.m)
		if was.broken {
			t.Fatalf("%s: it is broken ahead of that", c.name)
		}
		l, err := b.m.Take(b.in(c.payloads[last])[0])
		if len(l) != 0 || err != api.ErrForm {
			t.Fatalf("%s: Take is %v, %d", c.name, l, err)
		}
		was.broken = true
		wantCounts(t, b.m, was)
		wantAllRefused(t, b)
	}
}

// wantAllRefused asks that behind a break Take, Send and Frames tell ErrState, whatever is asked, and change nothing.
func wantAllRefused(t *testing.T, b *bench) {
	t.Helper()
	was := countsOf(b.m)
	end := b.own.Copy()
	for _, d := range append(b.in(part(stdout, 1, "a")), nil, []byte{1, 2, 3}, make([]byte, 601)) {
		if l, err := b.m.Take(d); len(l) != 0 || err != api.ErrState {
			t.Fatalf("Take is %v, %d", l, err)
		}
	}
	for channel := -1; channel <= 6; channel++ {
		want(t, "Send", b.m.Send(message(channel, 0)), api.ErrState)
		want(t, "Send", b.m.Send(message(channel, 5000)), api.ErrState)
	}
	for _, now := range []int64{b.now, latest, -1, latest + 1} {
		if l, err := b.m.Frames(now); len(l) != 0 || err != api.ErrState {
			t.Fatalf("Frames is %x, %d", l, err)
		}
	}
	wantCounts(t, b.m, was)
	window, intake := end.Waits()
	if w, i := b.own.Waits(); w != window || i != intake || end.Owes() != b.own.Owes() || end.Left() != b.own.Left() {
		t.Fatal("the end is not as it was")
	}
}

// P10.2: the messages ahead of the break in the same call are told, and grants there are heard; what is behind it is not.
func TestBreaksTellWhatIsAhead(t *testing.T) {
	for _, c := range append(append(breaksByForm(), breaksByGrant()...), breaksByMessage()...) {
		last := len(c.payloads) - 1
		ahead := append([]string{part(stderr, 1, "a"), grant(command, 350), part(status, 0, "b"), part(status, 1, "c")}, c.payloads[:last]...)
		alone, more, twin := spent(t), spent(t), spent(t)
		told := twin.take(ahead...) // one by one they all are OK
		if len(told) < 2 || twin.m.Left(command) < 250 {
			t.Fatalf("%s: %v are told, %d is left", c.name, told, twin.m.Left(command))
		}
		wantBroken(t, alone, ahead, c.payloads[last], told...)
		wantBreak(t, more, append(ahead, c.payloads[last], grant(command, 400), part(stdout, 1, "behind"), part(stderr, 1, "")), told...)
		was := countsOf(twin.m)
		was.broken = true
		for _, b := range []*bench{alone, more} {
			wantCounts(t, b.m, was)
			wantAllRefused(t, b)
		}
	}
}

// P10.2: more than 4096 bytes in all, with the last part, or ahead of it, though more is granted.
func TestBreaksByTooManyBytes(t *testing.T) {
	for _, last := range []byte{0, 1} {
		for _, c := range []struct{ before, more int }{{4096, 1}, {4096, 254}, {4095, 2}, {4064, 33}, {3900, 254}, {3843, 254}} {
			b := benchOf(t, mux.Down, 8192)
			rest := c.before
			for rest > 0 {
				n := min(rest, 254)
				wantMessages(t, b.take(part(signal, 0, long(n))))
				rest -= n
			}
			wantBroken(t, b, nil, part(signal, last, long(c.more)))
			wantCounts(t, b.m, counts{left: lefts{stdout: 8192, stderr: 8192, status: 8192}, idle: true, broken: true})
		}
	}
}

// P10.2, P10.3: behind a break what was held is still used, what waits stays waiting, and a grant that is due waits, too.
func TestBehindABreak(t *testing.T) {
	b := benchOf(t, mux.Up, 300)
	b.take(partsOf(message(stdout, 299))...)
	b.take(partsOf(message(status, 9))...)
	want(t, "Use", b.m.Use(stdout, 160), api.OK)
	want(t, "Send", b.m.Send(message(command, 260)), api.OK)
	want(t, "the end's Send", b.own.Send([]byte("x"), b.now), api.OK)
	wantBroken(t, b, []string{part(stderr, 1, "ab"), part(stdout, 0, "c")}, "", text(stderr, "ab"))
	c := counts{left: lefts{command: 39, signal: 300}, held: lefts{stdout: 140, stderr: 3, status: 10}, broken: true, waits: 3}
	wantCounts(t, b.m, c)
	want(t, "Use of more than is held", b.m.Use(stderr, 4), api.ErrArg)
	want(t, "Use of one's own channel", b.m.Use(command, 0), api.ErrArg)
	want(t, "Use below 0", b.m.Use(stdout, -1), api.ErrArg)
	want(t, "Use", b.m.Use(stderr, 3), api.OK)
	want(t, "Use", b.m.Use(status, 10), api.OK)
	want(t, "Use", b.m.Use(stdout, 140), api.OK)
	c.held = lefts{}
	wantCounts(t, b.m, c) // the grant of 600 stands in the place of that of 460
	wantAllRefused(t, b)
}

// P10.3: behind a break a grant that is due anew waits, and a mux whose row and window are empty is idle.
func TestGrantBehindABreak(t *testing.T) {
	b := benchOf(t, mux.Down, 300)
	b.take(partsOf(message(command, 299))...)
	wantBroken(t, b, nil, "")
	c := counts{left: lefts{stdout: 300, stderr: 300, status: 300}, held: lefts{command: 300}, idle: true, broken: true}
	wantCounts(t, b.m, c)
	want(t, "Use", b.m.Use(command, 150), api.OK)
	c.held[command], c.waits, c.idle = 150, 1, false
	wantCounts(t, b.m, c)
}

// P10.2: a stream breaks on each side alike: what is one side's channel is not the other one's.
func TestBreaksOfDown(t *testing.T) {
	for _, p := range []string{
		part(stdout, 1, "a"), part(stderr, 1, "a"), part(status, 0, ""), grant(command, 300), grant(signal, 0), grant(stdout, 301), "", "\x01",
		part(command, 2, ""), part(6, 1, ""),
	} {
		b := benchOf(t, mux.Down, 300)
		wantBroken(t, b, []string{part(command, 1, "a"), grant(status, 300), part(signal, 1, "b")}, p, text(command, "a"), text(signal, "b"))
	}
}
