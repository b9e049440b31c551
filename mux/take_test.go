package mux_test

import (
	"bytes"
	"slices"
	"testing"

	"longwire/api"
	"longwire/arq"
	"longwire/frame"
	"longwire/mux"
)

// P10.2: parts are put together to messages, in order, channels one behind the other; the giver takes their price.
func TestTakeMessages(t *testing.T) {
	b := benchOf(t, mux.Up, 8192)
	all := []mux.Message{
		message(stdout, 0), message(stdout, 1), message(stderr, 253), message(status, 254), message(stdout, 255), message(status, 0),
		message(stderr, 508), message(status, 4095), message(stdout, 4096),
	}
	held := lefts{}
	for _, x := range all {
		wantMessages(t, b.take(partsOf(x)...), x)
		held[x.Channel] += len(x.Body) + 1
		wantCounts(t, b.m, counts{left: lefts{command: 8192, signal: 8192}, held: held, idle: true})
	}
	b = benchOf(t, mux.Down, 8192)
	wantMessages(t, b.take(partsOf(message(signal, 4096))...), message(signal, 4096))
	wantMessages(t, b.take(partsOf(message(command, 300))...), message(command, 300))
	wantCounts(t, b.m, counts{left: lefts{stdout: 8192, stderr: 8192, status: 8192}, held: lefts{command: 301, signal: 4097}, idle: true})
}

// P10.2: nothing is told, or held, of a message ahead of its last part.
func TestTakeWaitsForTheLastPart(t *testing.T) {
	b := benchOf(t, mux.Up, 300)
	x := message(stderr, 299)
	l := partsOf(x)
	wantMessages(t, b.take(l[0]))
	wantCounts(t, b.m, counts{left: lefts{command: 300, signal: 300}, idle: true})
	wantMessages(t, b.take(l[1]), x)
	wantCounts(t, b.m, counts{left: lefts{command: 300, signal: 300}, held: lefts{stderr: 300}, idle: true})
}

// P10.2: several messages that are whole in one call are told in order, with a part of the next one kept, and grants among them heard.
func TestTakeSeveralAtOnce(t *testing.T) {
	b := benchOf(t, mux.Up, 300)
	want(t, "Send", b.m.Send(message(command, 199)), api.OK)
	b.wantSent(partsOf(message(command, 199))...)
	last := partsOf(message(status, 260))
	l, err := b.atOnce(part(stdout, 1, "a"), part(stderr, 0, "b"), grant(command, 500), part(stderr, 1, "c"), part(stdout, 1, ""), last[0])
	want(t, "Take", err, api.OK)
	wantMessages(t, l, text(stdout, "a"), text(stderr, "bc"), text(stdout, ""))
	wantCounts(t, b.m, counts{left: lefts{command: 300, signal: 300}, held: lefts{stdout: 3, stderr: 3}, idle: true})
	wantMessages(t, b.take(last[1]), message(status, 260))
}

// text tells a message of a text.
func text(channel int, s string) mux.Message {
	return mux.Message{Channel: channel, Body: []byte(s)}
}

// P10.2: parts may be shorter than 254 bytes, wherever they stand, and of none; many of none are no more than one.
func TestTakeShortParts(t *testing.T) {
	b := benchOf(t, mux.Down, 5000)
	for _, c := range []struct {
		payloads []string
		want     string
	}{
		{[]string{part(command, 0, ""), part(command, 1, "")}, ""},
		{[]string{part(command, 0, "a"), part(command, 0, ""), part(command, 1, "b")}, "ab"},
		{[]string{part(command, 0, long(254)), part(command, 1, "")}, long(254)},
		{[]string{part(command, 0, "a"), part(command, 0, long(254)), part(command, 1, long(254))}, "a" + long(508)},
	} {
		wantMessages(t, b.take(c.payloads...), text(command, c.want))
		want(t, "Use", b.m.Use(command, b.m.Held(command)), api.OK)
	}
	for range 5000 {
		wantMessages(t, b.take(part(signal, 0, "")))
	}
	wantMessages(t, b.take(part(signal, 1, "x")), text(signal, "x"))
	if got := b.m.Held(signal); got != 2 {
		t.Errorf("%d is held, want 2", got)
	}
}

// P10.2: a body of just 4096 bytes is taken, however it is parted.
func TestTakeJustWhole(t *testing.T) {
	for _, first := range []int{0, 1, 31, 32, 253, 254} {
		b := benchOf(t, mux.Up, 4097)
		x := message(stdout, 4096)
		rest := string(x.Body)
		b.take(part(stdout, 0, rest[:first]))
		rest = rest[first:]
		for len(rest) > 254 {
			wantMessages(t, b.take(part(stdout, 0, rest[:254])))
			rest = rest[254:]
		}
		b.take(part(stdout, 0, rest)) // all is there, but not the last part
		wantMessages(t, b.take(part(stdout, 1, "")), x)
		wantCounts(t, b.m, counts{left: lefts{command: 4097, signal: 4097}, held: lefts{stdout: 4097}, idle: true})
	}
}

// P10.2: a grant goes to its spender: one that comes late, or again, takes nothing back, and one in the midst of a message is none of its parts.
func TestTakeGrants(t *testing.T) {
	b := benchOf(t, mux.Down, 300)
	want(t, "Send", b.m.Send(message(stderr, 299)), api.OK)
	want(t, "Send", b.m.Send(message(status, 99)), api.OK)
	for _, c := range []struct {
		payload string
		left    lefts
	}{
		{grant(stderr, 450), lefts{stdout: 300, stderr: 150, status: 200}},
		{grant(stderr, 450), lefts{stdout: 300, stderr: 150, status: 200}},
		{part(command, 0, "a"), lefts{stdout: 300, stderr: 150, status: 200}},
		{grant(stderr, 449), lefts{stdout: 300, stderr: 150, status: 200}},
		{grant(status, 400), lefts{stdout: 300, stderr: 150, status: 300}},
		{grant(stderr, 0), lefts{stdout: 300, stderr: 150, status: 200 + 100}},
		{grant(stdout, 300), lefts{stdout: 300, stderr: 150, status: 300}},
		{grant(stderr, 451), lefts{stdout: 300, stderr: 151, status: 300}},
		{grant(stderr, 600), lefts{stdout: 300, stderr: 300, status: 300}},
	} {
		wantMessages(t, b.take(c.payload))
		wantCounts(t, b.m, counts{left: c.left, waits: 3})
	}
	wantMessages(t, b.take(part(command, 1, "b")), text(command, "ab"))
}

// P10.2: of what was granted on each channel all may be taken; what was granted anew, too.
func TestTakeWhatWasGranted(t *testing.T) {
	b := benchOf(t, mux.Up, 300)
	for range 5 {
		for _, channel := range []int{status, stdout, stderr} {
			wantMessages(t, b.take(partsOf(message(channel, 299))...), message(channel, 299))
			want(t, "Use", b.m.Use(channel, 300), api.OK)
		}
	}
	wantMessages(t, b.take(partsOf(message(stdout, 9))...), message(stdout, 9))
	want(t, "Use", b.m.Use(stdout, 10), api.OK) // no grant is due: 1500 + 300 are granted, 1510 are used
	wantMessages(t, b.take(partsOf(message(stdout, 289))...), message(stdout, 289))
	wantBroken(t, b, nil, part(stdout, 1, ""))
}

// P10.2: datagrams that come late, doubled and mixed: what is in them is told once, in order.
func TestTakeMixed(t *testing.T) {
	b := benchOf(t, mux.Up, 300)
	l := b.in(part(stdout, 0, "a"), part(stdout, 1, "b"), part(stderr, 1, "c"), part(stdout, 1, "d"))
	for _, c := range []struct {
		k    int
		want []mux.Message
	}{
		{1, nil}, {1, nil}, {3, nil}, {0, []mux.Message{text(stdout, "ab")}}, {3, nil}, {0, nil}, {1, nil},
		{2, []mux.Message{text(stderr, "c"), text(stdout, "d")}}, {2, nil}, {3, nil}, {0, nil},
	} {
		got, err := b.m.Take(l[c.k])
		want(t, "Take", err, api.OK)
		wantMessages(t, got, c.want...)
	}
	wantCounts(t, b.m, counts{left: lefts{command: 300, signal: 300}, held: lefts{stdout: 5, stderr: 2}, idle: true})
}

// P10.2: what arq refuses is refused with its error, changes nothing, and breaks nothing.
func TestTakeOfWhatArqRefuses(t *testing.T) {
	b := benchOf(t, mux.Up, 300)
	b.take(part(stdout, 0, "a"))
	good := b.in(part(stdout, 1, "b"))[0]
	bad := func(change func(b []byte)) []byte {
		c := bytes.Clone(good)
		change(c)
		return c
	}
	stale, key := config(), config()
	stale.Epoch++
	key.In = keyOf("another one")
	was := countsOf(b.m)
	for _, c := range []struct {
		name string
		b    []byte
		want api.Errno
	}{
		{"nothing", nil, api.ErrShort},
		{"no bytes", []byte{}, api.ErrShort},
		{"cut", good[:20], api.ErrShort},
		{"one byte more", append(bytes.Clone(good), 0), api.ErrForm},
		{"too long, of bytes 0", make([]byte, 601), api.ErrForm},
		{"another bit", bad(func(b []byte) { b[30] ^= 1 }), api.ErrCheck},
		{"a Hello", helloOf(t), api.ErrState},
		{"another epoch", datagramOf(t, stale, part(stdout, 1, "b")), api.ErrStale},
		{"another key", datagramOf(t, key, part(stdout, 1, "b")), api.ErrCheck},
		{"one's own", b.sentBack(), api.ErrCheck},
	} {
		twin := b.own.Copy()
		_, arqs := twin.Take(c.b)
		got, err := b.m.Take(c.b)
		if len(got) != 0 || err != arqs || err != c.want {
			t.Errorf("%s: %v, %d, want %d, and arq's is %d", c.name, got, err, c.want, arqs)
		}
		wantCounts(t, b.m, was)
	}
	got, err := b.m.Take(good)
	want(t, "Take", err, api.OK)
	wantMessages(t, got, text(stdout, "ab"))
}

// helloOf tells a Hello of the bench's session.
func helloOf(t *testing.T) []byte {
	t.Helper()
	b, err := frame.Encode(frame.Frame{Kind: frame.Hello, Session: config().Session, Epoch: config().Epoch}, 0)
	want(t, "Encode", err, api.OK)
	return b
}

// datagramOf tells a datagram that the other side of such an end sends.
func datagramOf(t *testing.T, c arq.Config, payload string) []byte {
	t.Helper()
	e := endOf(t, across(c), 100)
	want(t, "Send", e.Send([]byte(payload), 0), api.OK)
	return e.Frames(0)[0]
}

// sentBack tells a datagram as the mux's end sends it.
func (b *bench) sentBack() []byte {
	e := b.own.Copy()
	e.Send([]byte(part(stdout, 1, "b")), b.now)
	return e.Frames(b.now)[0]
}

// wantBroken asks that the last one of payloads that come at once breaks the stream, and that the messages ahead of it are told.
func wantBroken(t *testing.T, b *bench, ahead []string, last string, told ...mux.Message) {
	t.Helper()
	wantBreak(t, b, append(slices.Clone(ahead), last), told...)
}

// wantBreak asks that one of payloads that come at once breaks the stream, and for the messages that are told.
func wantBreak(t *testing.T, b *bench, payloads []string, told ...mux.Message) {
	t.Helper()
	l, err := b.atOnce(payloads...)
	if err != api.ErrForm {
		t.Fatalf("Take of %.30q is %d", payloads, err)
	}
	wantMessages(t, l, told...)
	if !b.m.Broken() {
		t.Fatalf("behind %.30q it is not broken", payloads)
	}
}
