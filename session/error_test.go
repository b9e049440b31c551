package session_test

import (
	"strings"
	"testing"

	"longwire/api"
	"longwire/seal"
	"longwire/session"
)

// wrong is bytes that may not come in, and what is wrong with them.
type wrong struct {
	name string
	b    []byte
	want api.Errno
}

// flipped tells a datagram with a bit turned; its check stays as it was.
func flipped(b []byte, bit int) []byte {
	c := []byte(string(b))
	c[bit/8] ^= 1 << (bit % 8)
	return c
}

// noFrames tells bytes that are no frame, made of a datagram that is one.
func noFrames(g gram) []wrong {
	b, numbered, long := g.bytes(), g, g
	numbered.number = 1
	long.payload = strings.Repeat("x", 257)
	l := []wrong{
		{"no bytes", nil, api.ErrShort},
		{"an empty list", []byte{}, api.ErrShort},
		{"34 bytes 0", make([]byte, 34), api.ErrShort},
		{"35 bytes 0", make([]byte, 35), api.ErrCheck},
		{"36 bytes 0", make([]byte, 36), api.ErrForm},
		{"bytes behind it", append([]byte(string(b)), 0), api.ErrForm},
		{"twice", append([]byte(string(b)), b...), api.ErrForm},
		{"a bit of the check turned", flipped(b, 8*len(b)-1), api.ErrCheck},
		{"a bit of the kind turned", flipped(b, 0), api.ErrCheck},
		{"kind 0", gram{kind: 0}.bytes(), api.ErrForm},
		{"kind 6", gram{kind: 6, payload: g.payload}.bytes(), api.ErrForm},
		{"kind 255", gram{kind: 255}.bytes(), api.ErrForm},
		{"a number", numbered.bytes(), api.ErrForm},
		{"an ack", gram{kind: g.kind, session: g.session, epoch: g.epoch, ack: 1, payload: g.payload}.bytes(), api.ErrForm},
		{"a mask", gram{kind: g.kind, session: g.session, epoch: g.epoch, mask: 1, payload: g.payload}.bytes(), api.ErrForm},
		{"a payload that is too long", long.bytes(), api.ErrForm},
	}
	for many := range b {
		l = append(l, wrong{"cut", b[:many], api.ErrShort})
	}
	return l
}

// otherKinds tells frames of kinds, with a right tag and a wrong one, and with payloads that are right and wrong.
func otherKinds(kinds ...byte) []wrong {
	payloads := []string{"", "x", hello{ask: asks(1)}.gram().payload, welcome{}.gram().payload, refuse{}.gram().payload}
	var l []wrong
	for _, kind := range kinds {
		for _, payload := range payloads {
			g := gram{kind: kind, session: 5, epoch: 3, payload: payload}
			if kind == ackKind {
				g.payload = ""
			}
			l = append(l, wrong{"another kind", g.bytes(), api.ErrState})
			l = append(l, wrong{"another kind, with another tag", g.tagged(0), api.ErrState})
			l = append(l, wrong{"another kind, by a way's key", g.by(wayOf(0, 5, 3, 11, 21)), api.ErrState})
		}
	}
	return l
}

// otherTags tells a frame with tags that are not by the hello's key.
func otherTags(g gram) []wrong {
	right := tagOf(helloKey(), g.signed())
	l := []wrong{
		{"the tag 0", g.tagged(0), api.ErrCheck},
		{"another secret's ring", g.by(keyOf(other, "hello")), api.ErrCheck},
		{"the token's key", g.by(keyOf(secret, "token")), api.ErrCheck},
		{"the key of bytes 0", g.by(seal.Key{}), api.ErrCheck},
		{"a way's key", g.by(wayOf(0, g.session, g.epoch, 11, 21)), api.ErrCheck},
		{"the other way's key", g.by(wayOf(1, g.session, g.epoch, 11, 21)), api.ErrCheck},
		{"another payload's tag", g.tagged(tagOf(helloKey(), g.signed()+"x")), api.ErrCheck},
	}
	for bit := range 64 {
		l = append(l, wrong{"a bit of the tag turned", g.tagged(right ^ 1<<bit), api.ErrCheck})
	}
	return l
}

// otherPayloads tells a frame with payloads that are none of its kind, and each of them with another tag, too.
func otherPayloads(g gram, payloads ...string) []wrong {
	var l []wrong
	for _, payload := range payloads {
		g.payload = payload
		l = append(l, wrong{"a payload that is none", g.bytes(), api.ErrForm})
		l = append(l, wrong{"and another tag", g.tagged(0), api.ErrCheck})
	}
	return l
}

// cuts tells all that a payload begins with, but not the whole, and it with a byte more.
func cuts(payload string) []string {
	l := []string{payload + "\x00", payload + "\x01", payload + payload}
	for many := range payload {
		l = append(l, payload[:many])
	}
	return l
}

// noAsks tells forms that are none of what a client may tell.
func noAsks() []string {
	l := []string{
		"", form(asks(0)), form(asks(1, 1)), form(asks(2, 0)), form(asks(3, 2, 2)), form(asks(3, 2, 1)), form(asks(3, 1, 3)),
		form(asks(99, 1, 2, 3, 4, 5, 6, 7, 8, 9, 10, 11, 12, 13, 14, 15, 16, 17)),
		laid(uint32(2), "\x01", uint32(1), uint32(0), uint32(0), "\x02"),
		laid(uint32(2), "\x01", uint32(1), uint32(0), uint32(0), "\xff"),
		laid(uint32(2), "\x02", uint32(1), uint32(0), uint32(0), "\x00"),
		laid(uint32(2), "\xff"),
	}
	return append(l, cuts(form(asks(4, 1, 3)))...)
}

// P12.1: each error of the server's Take, and several at once, in the chapter's order: frame's, the kind, the tag, the payload, and then alone whether it is stale.
func TestServersErrors(t *testing.T) {
	const head = "\x00\x00\x00\x00\x00\x00\x00\x0b\x00\x00\x00\x00\x00\x00\x00\x00"
	for _, h := range []hello{first(11), of(5, 3, 11), of(5, 1, 11), of(6, 3, 11), of(5, 9, 11), {session: 5, epoch: 3, nonce: 11, ask: asks(9)}} {
		g := h.gram()
		l := append(noFrames(g), otherKinds(welcomeKind, dataKind, ackKind, refuseKind)...)
		l = append(l, otherTags(g)...)
		l = append(l, otherPayloads(g, cuts(g.payload)...)...)
		for _, form := range noAsks() {
			l = append(l, otherPayloads(g, head+form)...)
		}
		fresh, busy := farOf(t, 5, 3, 2), farOf(t, 5, 3, 2)
		was := busy.takes(of(5, 3, 11), 21, 0)
		for _, w := range l {
			fresh.tells(w.b, w.want)
			busy.tells(w.b, w.want)
			if t.Failed() {
				t.Fatalf("%s, made of %+v", w.name, h)
			}
		}
		busy.again(of(5, 3, 11), was)
		fresh.takes(of(5, 3, 11), 21, 0)
	}
}

// P12.3: each error of the client's Take, and several at once, in the chapter's order, of one that waits and of one that does not.
func TestClientsErrors(t *testing.T) {
	for _, g := range []gram{
		answerTo(11, 5, 4).gram(), answerTo(11, 5, 3).gram(), answerTo(11, 6, 4).gram(), answerTo(12, 5, 4).gram(), answerTo(11, 0, 4).gram(),
		refuse{5, 3, 11}.gram(), refuse{5, 3, 12}.gram(),
	} {
		l := append(noFrames(g), otherKinds(helloKind, dataKind, ackKind)...)
		l = append(l, otherTags(g)...)
		l = append(l, otherPayloads(g, cuts(g.payload)...)...)
		idle, waiting := nearOf(t, 5, 3), nearOf(t, 5, 3)
		waiting.starts(11, asks(1))
		for _, w := range l {
			idle.stays(w.b, w.want)
			waiting.stays(w.b, w.want)
			if t.Failed() {
				t.Fatalf("%s, made of %+v", w.name, g)
			}
		}
		waiting.enters(answerTo(11, 5, 4))
	}
}

// P12.3: a Welcome with a Refuse's payload, and a Refuse with a Welcome's, are none.
func TestPayloadsExchanged(t *testing.T) {
	w, r := answerTo(11, 5, 4).gram(), refuse{5, 3, 11}.gram()
	w.payload, r.payload = r.payload, w.payload
	c := nearOf(t, 5, 3)
	c.starts(11, asks(1))
	c.stays(w.bytes(), api.ErrForm)
	c.stays(r.bytes(), api.ErrForm)
	c.enters(answerTo(11, 5, 4))
}

// turned tells a datagram with each one of its bits turned, and so with a check that is right then.
func turned(b []byte) [][]byte {
	var l [][]byte
	front := len(b) - 4
	for bit := range 8 * len(b) {
		d := flipped(b, bit)
		l = append(l, d)
		if bit < 8*front {
			l = append(l, checked(string(d[:front])))
		}
	}
	return l
}

// P12.1, P12.3: a datagram of a handshake with any bit turned is no frame, or of another kind, or has another tag, and changes nothing.
func TestBitTurned(t *testing.T) {
	f, c := farOf(t, 5, 3, 2), nearOf(t, 5, 3)
	may := func(e api.Errno) bool {
		return e == api.ErrShort || e == api.ErrForm || e == api.ErrState || e == api.ErrCheck
	}
	for _, b := range turned(c.starts(11, asks(1))) {
		if r, e := f.s.Take(b, 21, 0); !may(e) || !sameReply(r, session.Reply{}) {
			t.Errorf("a bit of a Hello turned, %x: %+v, %d", b, r, e)
		}
	}
	f.wantMark(markOf(5, 3, 2))
	for _, b := range turned(f.takes(of(5, 3, 11), 21, 0)) {
		if got, e := c.c.Take(b); !may(e) || got != (session.Begin{}) {
			t.Errorf("a bit of a Welcome turned, %x: %+v, %d", b, got, e)
		}
	}
	for _, b := range turned(refuse{5, 3, 11}.bytes()) {
		if got, e := c.c.Take(b); !may(e) || got != (session.Begin{}) {
			t.Errorf("a bit of a Refuse turned, %x: %+v, %d", b, got, e)
		}
	}
	c.wantKept(keptOf(5, 3))
	c.enters(answerTo(11, 5, 4))
}
