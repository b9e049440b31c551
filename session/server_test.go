package session_test

import (
	"bytes"
	"math"
	"testing"

	"longwire/api"
	"longwire/resume"
	"longwire/session"
)

// P12.1: the chapter's example: a new client's Hello, twice, at a server of session 5: one Welcome, twice: epoch 1.
func TestExample(t *testing.T) {
	c, f := nearOf(t, 0, 0), farOf(t, 5, 0, 0)
	b := c.starts(11, asks(1))
	one, e := f.s.Take(b, 21, 0)
	two, e2 := f.s.Take(b, 22, 0)
	if e != api.OK || e2 != api.OK || !one.Begins || two.Begins || !bytes.Equal(one.Datagram, two.Datagram) {
		t.Fatalf("%+v, %d, and again %+v, %d", one, e, two, e2)
	}
	f.wantMark(markOf(5, 1, 0))
	c.enters(welcome{5, 1, 11, 21, tokenOf(5, 1), 0})
}

// P12.1: what a server can't be made of, and what is just right.
func TestNewServer(t *testing.T) {
	r := ringOf(t, secret)
	for _, m := range []session.Mark{
		{Session: 1}, {Session: math.MaxUint32}, markOf(5, 1, 0), markOf(5, 1, 1), markOf(5, 7, 6), markOf(5, 7, 7),
		markOf(1, math.MaxUint32, 0), markOf(math.MaxUint32, math.MaxUint32, math.MaxUint32),
	} {
		if s, e := session.NewServer(r, m); s == nil || e != api.OK || s.Mark() != m {
			t.Errorf("of %v: %d, its mark %v", m, e, s.Mark())
		}
		for _, none := range noRings() {
			if s, e := session.NewServer(none, m); s != nil || e != api.ErrArg {
				t.Errorf("of no ring, and %v: %v, %d, want none, ErrArg", m, s, e)
			}
		}
	}
	for _, m := range []session.Mark{
		{}, markOf(0, 1, 0), markOf(0, 1, 1), markOf(5, 0, 1), markOf(5, 6, 7), markOf(5, 0, math.MaxUint32),
		markOf(5, math.MaxUint32-1, math.MaxUint32), markOf(0, 1, 2),
	} {
		if s, e := session.NewServer(r, m); s != nil || e != api.ErrArg {
			t.Errorf("of %v: %v, %d, want none, ErrArg", m, s, e)
		}
	}
}

// P12.1: a new client's Hello, again, with another nonce, and again behind a newer epoch.
func TestNewClientsHello(t *testing.T) {
	f := farOf(t, 5, 0, 0)
	one := f.takes(first(11), 21, 0)
	f.again(first(11), one)
	two := f.takes(first(12), 22, 0)
	f.again(first(12), two)
	three := f.takes(first(11), 23, 0) // it is not the last one any more
	if bytes.Equal(one, three) {
		t.Error("the Welcome to an epoch that is gone")
	}
	f.wantMark(markOf(5, 3, 0))
	f.confirms(true)
	f.again(first(11), three)
	f.refuses(first(12), 0)
	f.refuses(first(13), 0)
}

// P12.1: a nonce of 0 is one, on both sides, and a server that took nothing knows no Hello again.
func TestNonces(t *testing.T) {
	for _, n := range []uint64{0, 1, 1 << 63, math.MaxUint64} {
		f := farOf(t, 5, 0, 0)
		f.takes(first(n), n, 0)
		f.takes(first(n+1), n, 0)
		f.confirms(true)
		f.takes(of(5, 2, n), n+1, 0)
	}
}

// P12.1: a Hello is known again by session, epoch and nonce, and by nothing else; another of these makes it another one.
func TestKnownAgain(t *testing.T) {
	f := farOf(t, 5, 3, 2)
	was := f.takes(of(5, 3, 11), 21, 0)
	h := of(5, 3, 11)
	h.token++
	f.again(h, was)
	h.token = 0
	f.again(h, was)
	h.ask = asks(9) // does not fit the last id
	f.again(h, was)
	h.ask = asks(4, 1, 2, 3)
	f.again(h, was)
	h.session = 6
	f.refuses(h, 0)
	h.session, h.epoch = 5, 2
	f.refuses(h, 0)
	h.epoch, h.nonce = 3, 12
	f.refuses(h, 0)
	f.again(of(5, 3, 11), was)
	f.takes(of(5, 2, 11), 22, 0) // the same nonce in another epoch
	f.takes(of(5, 3, 11), 23, 0) // and that one is not the last any more
}

// P12.1: the same Welcome, whatever nonce and last id are handed in then, and behind a confirmed epoch, and behind others that were refused.
func TestSameWelcome(t *testing.T) {
	f := farOf(t, 5, 0, 0)
	h := hello{nonce: 11, ask: asks(3, 1, 2)}
	was := f.takes(h, 21, 1)
	for _, last := range []uint32{0, 1, 2, 3, math.MaxUint32} {
		f.wantReply(h.bytes(), 99, last, session.Reply{Datagram: was}, api.OK)
	}
	f.refuses(of(6, 1, 12), 0)
	f.tells(nil, api.ErrShort)
	f.again(h, was)
	f.confirms(true)
	f.again(h, was)
	f.refuses(first(12), 0)
	f.again(h, was)
	f.confirms(false)
	f.again(h, was)
	f.takes(of(5, 1, 13), 22, 0)
	f.refuses(h, 1) // that epoch is the server's no more, and one was confirmed
}

// P12.1: the epochs of a Hello: those below the confirmed one, it, those between it and the server's, that, and those above.
func TestEpochs(t *testing.T) {
	for _, m := range []session.Mark{markOf(5, 7, 4), markOf(5, 7, 7), markOf(5, 7, 0), markOf(5, 1, 0), markOf(5, 1, 1), markOf(5, 0, 0)} {
		for epoch := range uint32(10) {
			f := farMarked(t, m)
			h := of(5, epoch, 11)
			if epoch >= 1 && epoch >= m.Confirmed && epoch <= m.Epoch {
				f.takes(h, 21, 0)
			} else {
				f.refuses(h, 0)
			}
			g := farMarked(t, m)
			g.refuses(of(6, epoch, 12), 0)
			h.token ^= 1
			g.refuses(h, 0)
			h.token = tokenOf(5, epoch+1)
			g.refuses(h, 0)
			h.token = tokenOf(6, epoch)
			g.refuses(h, 0)
			h.token = 0
			g.refuses(h, 0)
		}
		f := farMarked(t, m)
		f.refuses(of(5, math.MaxUint32, 11), 0)
		f.refuses(of(math.MaxUint32, 1, 11), 0)
	}
}

// P12.1: a Hello of session 0 is taken if it has no epoch and no token, and no epoch was confirmed.
func TestSessionZero(t *testing.T) {
	for _, m := range []session.Mark{markOf(5, 0, 0), markOf(5, 7, 0), markOf(5, 7, 1), markOf(5, 7, 7)} {
		f := farMarked(t, m)
		for epoch := range uint32(9) {
			f.refuses(hello{epoch: epoch, nonce: 11, token: 1, ask: asks(1)}, 0)
			f.refuses(hello{epoch: epoch, nonce: 11, token: tokenOf(0, epoch), ask: asks(1)}, 0)
			f.refuses(hello{epoch: epoch, nonce: 11, token: tokenOf(5, epoch), ask: asks(1)}, 0)
			if epoch > 0 {
				f.refuses(hello{epoch: epoch, nonce: 11, ask: asks(1)}, 0)
			}
		}
		if m.Confirmed > 0 {
			f.refuses(first(11), 0)
		} else {
			f.takes(first(11), 21, 0)
		}
	}
}

// P12.1: a Hello of the server's session has an epoch: one of epoch 0 is refused, with the token of that, too.
func TestEpochZeroOfSession(t *testing.T) {
	f := farOf(t, 5, 0, 0)
	f.refuses(of(5, 0, 11), 0)
	f.refuses(hello{session: 5, nonce: 11, ask: asks(1)}, 0)
	f.takes(first(11), 21, 0)
	f.refuses(of(5, 0, 12), 0)
	f.refuses(hello{session: 5, nonce: 12, ask: asks(1)}, 0)
}

// P12.1: what the client tells has to fit the last id.
func TestFits(t *testing.T) {
	had := resume.Ask{Next: 6, Open: []resume.Have{{Id: 2, Out: 7, Err: 8, Status: true}, {Id: 4}, {Id: 5, Out: math.MaxUint32}}}
	for _, c := range []struct {
		ask  resume.Ask
		last uint32
		fits bool
	}{
		{asks(1), 0, true}, {asks(1), 1, false}, {asks(1), math.MaxUint32, false},
		{asks(2), 0, false}, {asks(2), 1, true}, {asks(2), 2, false}, {asks(2, 1), 0, true}, {asks(2, 1), 1, true},
		{had, 2, false}, {had, 3, true}, {had, 4, true}, {had, 5, true}, {had, 6, false},
		{asks(17, 1, 2, 3, 4, 5, 6, 7, 8, 9, 10, 11, 12, 13, 14, 15, 16), 0, true},
		{asks(18, 1, 2, 3, 4, 5, 6, 7, 8, 9, 10, 11, 12, 13, 14, 15, 16), 0, false},
		{asks(math.MaxUint32), math.MaxUint32 - 1, true}, {asks(math.MaxUint32), math.MaxUint32, false}, {asks(math.MaxUint32), 0, false},
	} {
		for _, h := range []hello{{nonce: 11}, {session: 5, epoch: 3, nonce: 11, token: tokenOf(5, 3)}} {
			h.ask = c.ask
			f := farOf(t, 5, 3, 0)
			if c.fits {
				f.takes(h, 21, c.last)
			} else {
				f.refuses(h, c.last)
			}
		}
	}
}

// P12.1: the last epoch of all begins, and none behind it.
func TestLastEpoch(t *testing.T) {
	const most = math.MaxUint32
	f := farOf(t, 5, most-1, most-3)
	f.refuses(of(5, most-4, 11), 0)
	was := f.takes(of(5, most-2, 11), 21, 0)
	f.wantMark(markOf(5, most, most-3))
	f.again(of(5, most-2, 11), was)
	f.refuses(of(5, most-2, 12), 0)
	f.refuses(of(5, most, 11), 0)
	f.confirms(true)
	f.again(of(5, most-2, 11), was)
	f.refuses(of(5, most, 12), 0)
	f = farOf(t, 5, most, 0)
	f.refuses(first(11), 0)
	f.refuses(of(5, most, 11), 0)
	f.refuses(of(5, 1, 11), 0)
	f.confirms(true)
	f.refuses(of(5, most, 11), 0)
	f = farOf(t, 5, most-1, 0)
	f.takes(first(11), 21, 0)
	f.refuses(first(12), 0)
}

// P12.1: Confirm before any epoch began, behind one, and again.
func TestConfirm(t *testing.T) {
	f := farOf(t, 5, 0, 0)
	f.confirms(false)
	f.confirms(false)
	f.takes(first(11), 21, 0)
	f.confirms(true)
	f.confirms(false)
	f.takes(of(5, 1, 12), 22, 0)
	f.takes(of(5, 1, 13), 23, 0)
	f.wantMark(markOf(5, 3, 1))
	f.confirms(true)
	f.confirms(false)
	f.wantMark(markOf(5, 3, 3))
	for _, m := range []session.Mark{markOf(5, 7, 7), markOf(5, math.MaxUint32, math.MaxUint32)} {
		farMarked(t, m).confirms(false)
	}
	for _, m := range []session.Mark{markOf(5, 7, 6), markOf(5, 7, 0), markOf(5, math.MaxUint32, 0)} {
		farMarked(t, m).confirms(true)
	}
}

// P12.1: a server that is made anew with a mark goes on behind it, and knows no Hello again.
func TestAnew(t *testing.T) {
	f := farOf(t, 5, 0, 0)
	f.takes(first(11), 21, 0)
	f = farMarked(t, f.s.Mark())
	f.takes(first(11), 22, 0) // no epoch was confirmed, so it comes in again
	f.wantMark(markOf(5, 2, 0))
	f.confirms(true)
	f = farMarked(t, f.s.Mark())
	f.refuses(first(11), 0)
	f.refuses(of(5, 1, 12), 0)
	f.takes(of(5, 2, 13), 23, 0)
	f = farMarked(t, f.s.Mark())
	f.takes(of(5, 2, 13), 24, 0)
	f.takes(of(5, 3, 14), 25, 0)
	f.wantMark(markOf(5, 5, 2))
	f.confirms(true)
	f = farMarked(t, f.s.Mark())
	f.refuses(of(5, 2, 13), 0)
	f.refuses(of(5, 3, 14), 0)
	f.takes(of(5, 5, 15), 26, 0)
}

// P12.1: all of no server, and of one that NewServer did not make.
func TestNoServer(t *testing.T) {
	failed, _ := session.NewServer(nil, markOf(5, 0, 0))
	for _, s := range []*session.Server{nil, {}, new(session.Server), failed} {
		for _, b := range [][]byte{nil, []byte("no frame"), first(11).bytes(), of(5, 1, 11).bytes(), gram{kind: dataKind}.bytes()} {
			if got, e := s.Take(b, 21, 0); e != api.ErrNil || !sameReply(got, session.Reply{}) {
				t.Errorf("Take is %+v, %d, want nothing, ErrNil", got, e)
			}
		}
		if s.Confirm() || s.Mark() != (session.Mark{}) {
			t.Error("none confirms, or has a mark")
		}
	}
}
