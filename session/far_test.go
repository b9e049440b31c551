package session_test

import (
	"bytes"
	"testing"

	"longwire/api"
	"longwire/resume"
	"longwire/session"
)

// far is a server that is asked, and what it should answer.
type far struct {
	t *testing.T
	s *session.Server
}

// farOf makes a server of a mark.
func farOf(t *testing.T, session, epoch, confirmed uint32) far {
	t.Helper()
	return farMarked(t, markOf(session, epoch, confirmed))
}

func markOf(of, epoch, confirmed uint32) session.Mark {
	return session.Mark{Session: of, Epoch: epoch, Confirmed: confirmed}
}

func farMarked(t *testing.T, m session.Mark) far {
	t.Helper()
	s, e := session.NewServer(ringOf(t, secret), m)
	if e != api.OK || s == nil || s.Mark() != m {
		t.Fatalf("a server of %v: %v, %d", m, s, e)
	}
	return far{t, s}
}

// takes asks that a Hello is taken, with this nonce and last id, and tells the Welcome.
func (f far) takes(h hello, nonce uint64, last uint32) []byte {
	f.t.Helper()
	m := f.s.Mark()
	m.Epoch++
	want := session.Reply{
		Datagram: welcome{m.Session, m.Epoch, h.nonce, nonce, tokenOf(m.Session, m.Epoch), last}.bytes(),
		Begins:   true,
		Ask:      h.ask,
		Up:       wayOf(0, m.Session, m.Epoch, h.nonce, nonce),
		Down:     wayOf(1, m.Session, m.Epoch, h.nonce, nonce),
	}
	f.wantReply(h.bytes(), nonce, last, want, api.OK)
	f.wantMark(m)
	f.again(h, want.Datagram)
	return want.Datagram
}

// again asks that a Hello is answered by a Welcome that it was answered by before, and that nothing begins.
func (f far) again(h hello, welcome []byte) {
	f.t.Helper()
	m := f.s.Mark()
	f.wantReply(h.bytes(), 77, 0, session.Reply{Datagram: welcome}, api.OK)
	f.wantMark(m)
}

// refuses asks that a Hello is refused, and that nothing changes.
func (f far) refuses(h hello, last uint32) {
	f.t.Helper()
	m := f.s.Mark()
	f.wantReply(h.bytes(), 78, last, session.Reply{Datagram: refuse{h.session, h.epoch, h.nonce}.bytes()}, api.ErrStale)
	f.wantMark(m)
}

// tells asks that bytes are answered by an error alone, and that nothing changes.
func (f far) tells(b []byte, want api.Errno) {
	f.t.Helper()
	m := f.s.Mark()
	f.wantReply(b, 79, 0, session.Reply{}, want)
	f.wantMark(m)
}

// confirms asks what Confirm tells, and what it leaves.
func (f far) confirms(want bool) {
	f.t.Helper()
	m := f.s.Mark()
	m.Confirmed = m.Epoch
	if got := f.s.Confirm(); got != want {
		f.t.Errorf("Confirm is %t, want %t", got, want)
	}
	f.wantMark(m)
}

func (f far) wantReply(b []byte, nonce uint64, last uint32, want session.Reply, wantErr api.Errno) {
	f.t.Helper()
	got, e := f.s.Take(b, nonce, last)
	if e != wantErr || !sameReply(got, want) {
		f.t.Errorf("Take of %x is %+v, %d, want %+v, %d", b, got, e, want, wantErr)
	}
}

func (f far) wantMark(m session.Mark) {
	f.t.Helper()
	if got := f.s.Mark(); got != m {
		f.t.Errorf("the mark is %v, want %v", got, m)
	}
}

// first tells the Hello of a new client, with this nonce.
func first(nonce uint64) hello {
	return hello{nonce: nonce, ask: asks(1)}
}

// of tells the Hello of a client that is in an epoch, with this nonce.
func of(session, epoch uint32, nonce uint64) hello {
	return hello{session: session, epoch: epoch, nonce: nonce, token: tokenOf(session, epoch), ask: asks(1)}
}

// near is a client that is asked, and what it should answer.
type near struct {
	t *testing.T
	c *session.Client
}

// nearOf makes a client that keeps a session and an epoch, and that epoch's token.
func nearOf(t *testing.T, session, epoch uint32) near {
	t.Helper()
	return nearKept(t, keptOf(session, epoch))
}

func keptOf(of, epoch uint32) session.Kept {
	if of == 0 {
		return session.Kept{}
	}
	return session.Kept{Session: of, Epoch: epoch, Token: tokenOf(of, epoch)}
}

func nearKept(t *testing.T, k session.Kept) near {
	t.Helper()
	c, e := session.NewClient(ringOf(t, secret), k)
	if e != api.OK || c == nil {
		t.Fatalf("a client of %v: %v, %d", k, c, e)
	}
	n := near{t, c}
	n.wantKept(k)
	n.wantIdle()
	return n
}

// starts asks that a Hello of this nonce is told, and waits.
func (n near) starts(nonce uint64, ask resume.Ask) []byte {
	n.t.Helper()
	k := n.c.Kept()
	token := k.Token
	if k.Session == 0 {
		token = 0
	}
	want := hello{k.Session, k.Epoch, nonce, token, ask}.bytes()
	if got, e := n.c.Start(nonce, ask); e != api.OK || !bytes.Equal(got, want) {
		n.t.Errorf("Start is %x, %d, want %x, OK", got, e, want)
	}
	n.wantKept(k)
	n.wantWaits(want)
	return want
}

// enters asks that a Welcome is taken, and what begins then.
func (n near) enters(w welcome) {
	n.t.Helper()
	want := session.Begin{
		Session: w.session,
		Epoch:   w.epoch,
		Last:    w.last,
		Up:      wayOf(0, w.session, w.epoch, w.client, w.server),
		Down:    wayOf(1, w.session, w.epoch, w.client, w.server),
	}
	if got, e := n.c.Take(w.bytes()); e != api.OK || got != want {
		n.t.Errorf("Take of %+v is %+v, %d, want %+v, OK", w, got, e, want)
	}
	n.wantKept(session.Kept{Session: w.session, Epoch: w.epoch, Token: w.token})
	n.wantIdle()
}

// isRefused asks that a Refuse is taken, and that what is kept stays.
func (n near) isRefused(b []byte) {
	n.t.Helper()
	k := n.c.Kept()
	if got, e := n.c.Take(b); e != api.ErrNone || got != (session.Begin{}) {
		n.t.Errorf("Take of %x is %+v, %d, want nothing, ErrNone", b, got, e)
	}
	n.wantKept(k)
	n.wantIdle()
}

// stays asks that bytes are answered by an error alone, and that nothing changes.
func (n near) stays(b []byte, want api.Errno) {
	n.t.Helper()
	k, again := n.c.Kept(), n.c.Again()
	if got, e := n.c.Take(b); e != want || got != (session.Begin{}) {
		n.t.Errorf("Take of %x is %+v, %d, want nothing, %d", b, got, e, want)
	}
	n.wantKept(k)
	if len(again) == 0 {
		n.wantIdle()
	} else {
		n.wantWaits(again)
	}
}

func (n near) wantKept(k session.Kept) {
	n.t.Helper()
	if got := n.c.Kept(); got != k {
		n.t.Errorf("%v is kept, want %v", got, k)
	}
}

// wantIdle asks that no Hello waits.
func (n near) wantIdle() {
	n.t.Helper()
	if b := n.c.Again(); n.c.Waits() || len(b) != 0 {
		n.t.Errorf("a Hello waits: %t, %x", n.c.Waits(), b)
	}
}

// wantWaits asks that this Hello waits.
func (n near) wantWaits(hello []byte) {
	n.t.Helper()
	for range 2 {
		if b := n.c.Again(); !n.c.Waits() || !bytes.Equal(b, hello) {
			n.t.Errorf("what waits is %t, %x, want %x", n.c.Waits(), b, hello)
		}
	}
}
