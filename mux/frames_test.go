package mux_test

import (
	"math"
	"testing"

	"longwire/api"
	"longwire/arq"
	"longwire/mux"
)

// twinOf tells an end that has what a new bench's end has.
func twinOf(t *testing.T) *arq.End {
	t.Helper()
	return endOf(t, config(), 100000)
}

// P10.2: what waits is sent into the end, and the end's datagrams are told as they are, those that are due again, too.
func TestFramesAreTheEnds(t *testing.T) {
	b, twin := benchOf(t, mux.Up, 300), twinOf(t)
	want(t, "Send", b.m.Send(message(command, 260)), api.OK)
	for _, p := range partsOf(message(command, 260)) {
		twin.Send([]byte(p), 5)
	}
	for _, now := range []int64{5, 5, 14, 15, 16, 34, 35, 64, 65, 95} {
		l, err := b.m.Frames(now)
		want(t, "Frames", err, api.OK)
		wantGrams(t, l, twin.Frames(now))
	}
	wantCounts(t, b.m, counts{left: lefts{command: 39, signal: 300}})
	want(t, "Send", b.m.Send(message(signal, 1)), api.OK)
	twin.Send([]byte(partsOf(message(signal, 1))[0]), 97)
	l, err := b.m.Frames(97)
	want(t, "Frames", err, api.OK)
	wantGrams(t, l, twin.Frames(97))
}

// P10.2: where nothing is due, and an ack is owed, that is told; else nothing.
func TestFramesTellAnAck(t *testing.T) {
	b, twin := benchOf(t, mux.Up, 300), twinOf(t)
	b.wantSent()
	d := b.in(part(stdout, 0, "a"))[0]
	twin.Take(d)
	if _, err := b.m.Take(d); err != api.OK {
		t.Fatalf("Take is %d", err)
	}
	l, err := b.m.Frames(0)
	if len(l) != 1 || err != api.OK {
		t.Fatalf("Frames is %x, %d", l, err)
	}
	wantGrams(t, l, twin.Frames(0))
	b.wantSent()
}

// P10.2: of a row that is longer than the window 16 are sent, the rest waits, and no error is told.
func TestFramesOfAFullWindow(t *testing.T) {
	b := benchOf(t, mux.Up, 8192)
	var all []string
	for n := range 40 {
		x := message(command, n)
		want(t, "Send", b.m.Send(x), api.OK)
		all = append(all, partsOf(x)...)
	}
	first, err := b.m.Frames(0)
	if len(first) != 16 || err != api.OK || b.m.Waits() != 24 {
		t.Fatalf("Frames tells %d, %d; %d wait", len(first), err, b.m.Waits())
	}
	for range 3 {
		if l, err := b.m.Frames(0); len(l) != 0 || err != api.OK || b.m.Waits() != 24 {
			t.Fatalf("Frames tells %d, %d; %d wait", len(l), err, b.m.Waits())
		}
	}
	for _, d := range first[:3] { // an ack of three makes room for three
		b.other.Take(d)
	}
	b.m.Take(b.other.Frames(0)[0])
	if l, err := b.m.Frames(0); len(l) != 3 || err != api.OK || b.m.Waits() != 21 {
		t.Fatalf("Frames tells %d, %d; %d wait", len(l), err, b.m.Waits())
	}
	b.now = 10 // all is due again
	b.wantSent(all[3:19]...)
	b.wantSent(all[19:35]...)
	b.wantSent(all[35:]...)
	b.wantSent()
	if !b.m.Idle() {
		t.Error("it is not idle")
	}
}

// P10.2: an end whose numbers are used up: ErrFull, with the datagrams; what was not sent stays waiting.
func TestFramesWithoutNumbers(t *testing.T) {
	b := benchWith(t, mux.Up, 8192, 3)
	for n := range 3 {
		want(t, "Send", b.m.Send(message(command, n)), api.OK)
	}
	if l, err := b.m.Frames(0); len(l) != 3 || err != api.OK {
		t.Fatalf("Frames tells %d, %d", len(l), err) // just as many as there are numbers: none is refused
	}
	if l, err := b.m.Frames(10); len(l) != 3 || err != api.OK {
		t.Fatalf("Frames tells %d, %d", len(l), err) // nothing waits: none is refused
	}
	want(t, "Send", b.m.Send(message(command, 5)), api.OK)
	want(t, "Send", b.m.Send(message(signal, 6)), api.OK)
	was := counts{left: lefts{command: 8192 - 12, signal: 8192 - 7}, waits: 2}
	for _, c := range []struct {
		now  int64
		many int
	}{{11, 0}, {29, 0}, {30, 3}, {31, 0}, {60, 3}} {
		if l, err := b.m.Frames(c.now); len(l) != c.many || err != api.ErrFull {
			t.Fatalf("Frames at %d tells %d, %d", c.now, len(l), err)
		}
		wantCounts(t, b.m, was)
	}
	b.now = 90
	if got := b.sent(api.ErrFull); len(got) != 3 {
		t.Fatalf("%d payloads came", len(got))
	}
	wantCounts(t, b.m, was) // the window is empty, but not the row: it is not idle
	b.take(part(stdout, 1, "a"))
	if l, err := b.m.Frames(91); len(l) != 0 || err != api.ErrFull {
		t.Fatalf("Frames tells %d, %d", len(l), err)
	}
	b.other.Send([]byte(part(stdout, 1, "b")), 91)
	b.m.Take(b.other.Frames(91)[0])
	if l, err := b.m.Frames(91); len(l) != 1 || err != api.ErrFull {
		t.Fatalf("Frames tells %d, %d: an ack is owed", len(l), err)
	}
}

// P10.2: numbers that are used up in the midst of a message: what had a number is told, the rest waits.
func TestFramesWithoutNumbersInAMessage(t *testing.T) {
	b := benchWith(t, mux.Down, 8192, 2)
	x := message(stdout, 700)
	want(t, "Send", b.m.Send(x), api.OK)
	l, err := b.m.Frames(0)
	if len(l) != 2 || err != api.ErrFull || b.m.Waits() != 1 {
		t.Fatalf("Frames tells %d, %d; %d wait", len(l), err, b.m.Waits())
	}
	wantGrams(t, l, twinGrams(t, 0, partsOf(x)[:2]...))
}

// twinGrams tells the datagrams of payloads that a new end sends now.
func twinGrams(t *testing.T, now int64, payloads ...string) [][]byte {
	t.Helper()
	twin := twinOf(t)
	for _, p := range payloads {
		want(t, "the twin's Send", twin.Send([]byte(p), now), api.OK)
	}
	return twin.Frames(now)
}

// P10.2: a window that is full, and numbers that are used up: what refused is that the window is full, so no error is told, till an ack has come.
func TestFramesOfAFullWindowWithoutNumbers(t *testing.T) {
	b := benchWith(t, mux.Up, 8192, 16)
	for range 17 {
		want(t, "Send", b.m.Send(message(command, 1)), api.OK)
	}
	l, err := b.m.Frames(0)
	if len(l) != 16 || err != api.OK || b.m.Waits() != 1 {
		t.Fatalf("Frames tells %d, %d; %d wait", len(l), err, b.m.Waits())
	}
	b.other.Take(l[0])
	b.m.Take(b.other.Frames(0)[0])
	if l, err := b.m.Frames(0); len(l) != 0 || err != api.ErrFull || b.m.Waits() != 1 {
		t.Fatalf("Frames tells %d, %d; %d wait", len(l), err, b.m.Waits())
	}
}

// P10.2: a grant that has no number waits, and ErrFull is told.
func TestGrantWithoutNumbers(t *testing.T) {
	b := benchWith(t, mux.Up, 300, 1)
	want(t, "Send", b.m.Send(message(command, 1)), api.OK)
	b.wantSent(partsOf(message(command, 1))...)
	b.take(partsOf(message(stderr, 149))...)
	want(t, "Use", b.m.Use(stderr, 150), api.OK)
	for range 2 {
		if l, err := b.m.Frames(0); len(l) != 0 || err != api.ErrFull || b.m.Waits() != 1 || b.m.Idle() {
			t.Fatalf("Frames tells %d, %d; %d wait", len(l), err, b.m.Waits())
		}
	}
}

// P10.2: grants go ahead of all parts, by rising channels, whatever was used, or sent, first.
func TestGrantsGoAhead(t *testing.T) {
	b := benchOf(t, mux.Up, 300)
	for _, channel := range []int{stdout, stderr, status} {
		b.take(partsOf(message(channel, 299))...)
	}
	want(t, "Send", b.m.Send(message(command, 260)), api.OK)
	want(t, "Use", b.m.Use(status, 200), api.OK)
	want(t, "Send", b.m.Send(message(signal, 1)), api.OK)
	want(t, "Use", b.m.Use(stdout, 150), api.OK)
	want(t, "Use", b.m.Use(stderr, 300), api.OK)
	wantCounts(t, b.m, counts{
		left:  lefts{command: 39, signal: 298},
		held:  lefts{stdout: 150, stderr: 0, status: 100},
		waits: 6,
	})
	all := []string{grant(stdout, 450), grant(stderr, 600), grant(status, 500)}
	all = append(append(all, partsOf(message(command, 260))...), partsOf(message(signal, 1))...)
	b.wantSent(all...)

	b = benchOf(t, mux.Down, 300)
	b.take(append(partsOf(message(signal, 299)), partsOf(message(command, 299))...)...)
	want(t, "Use", b.m.Use(signal, 151), api.OK)
	want(t, "Use", b.m.Use(command, 152), api.OK)
	b.wantSent(grant(command, 452), grant(signal, 451))
}

// P10.2: a newer grant stands in the place of an older one that waits, however many there were, and that alone is sent.
func TestGrantInThePlaceOfAnother(t *testing.T) {
	b := benchOf(t, mux.Down, 300)
	b.take(partsOf(message(command, 299))...)
	b.take(partsOf(message(signal, 299))...)
	want(t, "Use", b.m.Use(command, 150), api.OK)
	want(t, "Use", b.m.Use(signal, 160), api.OK)
	want(t, "Use", b.m.Use(command, 149), api.OK)
	if got := b.m.Waits(); got != 2 {
		t.Fatalf("%d wait", got)
	}
	want(t, "Use", b.m.Use(command, 1), api.OK)
	if got := b.m.Waits(); got != 2 {
		t.Fatalf("%d wait", got)
	}
	b.wantSent(grant(command, 600), grant(signal, 460))
	b.wantSent()
	b.take(partsOf(message(command, 299))...)
	want(t, "Use", b.m.Use(command, 300), api.OK)
	b.wantSent(grant(command, 900))
}

// P10.2: a grant that the window has no room for waits ahead of the parts, also of those of a message that is under way.
func TestGrantWaitsForRoom(t *testing.T) {
	b := benchOf(t, mux.Up, 8192)
	b.take(partsOf(message(status, 4095))...)
	x := message(command, 4096)
	want(t, "Send", b.m.Send(x), api.OK)
	first, err := b.m.Frames(0)
	if len(first) != 16 || err != api.OK {
		t.Fatalf("Frames tells %d, %d", len(first), err)
	}
	want(t, "Use", b.m.Use(status, 4096), api.OK)
	if l, err := b.m.Frames(0); len(l) != 0 || err != api.OK || b.m.Waits() != 2 {
		t.Fatalf("Frames tells %d, %d; %d wait", len(l), err, b.m.Waits())
	}
	for _, d := range first {
		b.other.Take(d)
	}
	b.m.Take(b.other.Frames(0)[0])
	b.wantSent(grant(status, 4096+8192), partsOf(x)[16])
}

// P10.2: at ticks that are none nothing can be sent into the end: it stays waiting, no error is told, and what is due then is told.
func TestFramesAtNoTick(t *testing.T) {
	for _, now := range []int64{-1, math.MinInt64, latest + 1, math.MaxInt64} {
		b := benchOf(t, mux.Up, 300)
		b.take(partsOf(message(stdout, 149))...)
		want(t, "Use", b.m.Use(stdout, 150), api.OK)
		want(t, "Send", b.m.Send(message(command, 1)), api.OK)
		want(t, "the end's Send", b.own.Send([]byte("x"), 0), api.OK)
		was := countsOf(b.m)
		l, err := b.m.Frames(now)
		want(t, "Frames", err, api.OK)
		if len(l) != 1 {
			t.Fatalf("Frames at %d tells %d", now, len(l))
		}
		wantCounts(t, b.m, was)
	}
	for _, now := range []int64{0, 1, latest - 1, latest} {
		b := benchOf(t, mux.Up, 300)
		want(t, "Send", b.m.Send(message(command, 1)), api.OK)
		b.now = now
		b.wantSent(partsOf(message(command, 1))...)
	}
}
