package session_test

import (
	"encoding/binary"
	"hash/crc32"
	"math"

	"longwire/api"
	"longwire/resume"
	"longwire/session"
)

// fields takes fields off the front of bytes.
type fields struct {
	left  string
	short bool
}

func (f *fields) take(n int) string {
	if f.short = f.short || n > len(f.left); f.short {
		return string(make([]byte, n))
	}
	front := f.left[:n]
	f.left = f.left[n:]
	return front
}

func (f *fields) one() byte     { return f.take(1)[0] }
func (f *fields) two() int      { return int(binary.BigEndian.Uint16([]byte(f.take(2)))) }
func (f *fields) four() uint32  { return binary.BigEndian.Uint32([]byte(f.take(4))) }
func (f *fields) eight() uint64 { return binary.BigEndian.Uint64([]byte(f.take(8))) }
func (f *fields) isWhole() bool { return !f.short && f.left == "" }
func (g gram) isHandshake() bool {
	return g.kind == helloKind || g.kind == welcomeKind || g.kind == refuseKind
}

// may tells whether it may be, by the words of frame's chapter.
func (g gram) may() bool {
	switch {
	case len(g.payload) > 256 || g.kind < helloKind || g.kind > refuseKind:
		return false
	case g.isHandshake():
		return g.number == 0 && g.ack == 0 && g.mask == 0
	case g.kind == dataKind:
		return g.number < 1<<31
	}
	return g.number == 0 && g.payload == ""
}

// opened tells what a datagram of some kinds tells, by the words of the chapters.
func opened(b []byte, kinds ...byte) (gram, api.Errno) {
	f := &fields{left: string(b)}
	g := gram{kind: f.one(), session: f.four(), epoch: f.four(), number: f.four(), ack: f.four(), mask: f.four()}
	g.payload = f.take(f.two())
	tag, check := f.eight(), f.four()
	switch {
	case f.short:
		return gram{}, api.ErrShort
	case f.left != "":
		return gram{}, api.ErrForm
	case crc32.ChecksumIEEE(b[:len(b)-4]) != check:
		return gram{}, api.ErrCheck
	case !g.may():
		return gram{}, api.ErrForm
	}
	for _, kind := range kinds {
		if g.kind != kind {
			continue
		}
		if tagOf(helloKey(), g.signed()) != tag {
			return gram{}, api.ErrCheck
		}
		return g, api.OK
	}
	return gram{}, api.ErrState
}

// helloOf tells the Hello of a gram, and whether its payload is one.
func helloOf(g gram) (hello, bool) {
	f := &fields{left: g.payload}
	h := hello{session: g.session, epoch: g.epoch, nonce: f.eight(), token: f.eight(), ask: resume.Ask{Next: f.four()}}
	ahead, good := uint32(0), h.ask.Next >= 1
	many := f.one()
	for range many {
		x := resume.Have{Id: f.four(), Out: f.four(), Err: f.four()}
		status := f.one()
		good = good && status <= 1 && x.Id > ahead && x.Id < h.ask.Next
		x.Status = status == 1
		ahead = x.Id
		h.ask.Open = append(h.ask.Open, x)
	}
	return h, good && f.isWhole() && many <= 16
}

// modelServer is a server made from the words of the chapter alone: it keeps all Hellos that it took since it was made, and what it answered.
type modelServer struct {
	mark session.Mark // at first
	took []hello
	sent [][]byte
	is   uint32 // the greatest epoch that was confirmed
}

func modelServerOf(m session.Mark) *modelServer { return &modelServer{mark: m, is: m.Confirmed} }

func (m *modelServer) epoch() uint32 { return m.mark.Epoch + uint32(len(m.took)) }

func (m *modelServer) now() session.Mark {
	return session.Mark{Session: m.mark.Session, Epoch: m.epoch(), Confirmed: m.is}
}

func (m *modelServer) confirm() bool {
	was := m.is
	m.is = m.epoch()
	return was != m.is
}

// fits tells whether what a client told fits the last id; the ids of these tests are small.
func fits(a resume.Ask, last uint32) bool {
	open := map[uint32]bool{}
	for _, h := range a.Open {
		open[h.Id] = true
	}
	for id := last + 1; id < a.Next; id++ {
		if !open[id] {
			return false
		}
	}
	return last < a.Next
}

// mayTake tells whether a Hello is one that the server takes.
func (m *modelServer) mayTake(h hello, last uint32) bool {
	if !fits(h.ask, last) || m.epoch() == 4294967295 {
		return false
	}
	if h.session == 0 {
		return h.epoch == 0 && h.token == 0 && m.is == 0
	}
	if h.epoch == 0 || h.epoch < m.is || h.epoch > m.epoch() {
		return false
	}
	return h.session == m.mark.Session && h.token == tokenOf(h.session, h.epoch)
}

func (m *modelServer) take(b []byte, nonce uint64, last uint32) (session.Reply, api.Errno) {
	g, e := opened(b, helloKind)
	if e != api.OK {
		return session.Reply{}, e
	}
	h, good := helloOf(g)
	if !good {
		return session.Reply{}, api.ErrForm
	}
	if many := len(m.took); many > 0 {
		was := m.took[many-1]
		if was.session == h.session && was.epoch == h.epoch && was.nonce == h.nonce {
			return session.Reply{Datagram: m.sent[many-1]}, api.OK
		}
	}
	if !m.mayTake(h, last) {
		return session.Reply{Datagram: refuse{h.session, h.epoch, h.nonce}.bytes()}, api.ErrStale
	}
	of, epoch := m.mark.Session, m.epoch()+1
	r := session.Reply{
		Datagram: welcome{of, epoch, h.nonce, nonce, tokenOf(of, epoch), last}.bytes(),
		Begins:   true,
		Ask:      h.ask,
		Up:       wayOf(0, of, epoch, h.nonce, nonce),
		Down:     wayOf(1, of, epoch, h.nonce, nonce),
	}
	m.took, m.sent = append(m.took, h), append(m.sent, r.Datagram)
	return r, api.OK
}

// modelClient is a client made from the words of the chapter alone.
type modelClient struct {
	kept  session.Kept
	waits []hello // none, or one
}

func (m *modelClient) start(nonce uint64, ask resume.Ask) []byte {
	h := hello{m.kept.Session, m.kept.Epoch, nonce, m.kept.Token, ask}
	if h.session == 0 {
		h.token = 0
	}
	m.waits = []hello{h}
	return h.bytes()
}

func (m *modelClient) again() []byte {
	if len(m.waits) == 0 {
		return nil
	}
	return m.waits[0].bytes()
}

func (m *modelClient) take(b []byte) (session.Begin, api.Errno) {
	g, e := opened(b, welcomeKind, refuseKind)
	if e != api.OK {
		return session.Begin{}, e
	}
	f := &fields{left: g.payload}
	w := welcome{session: g.session, epoch: g.epoch, client: f.eight()}
	if g.kind == welcomeKind {
		w.server, w.token, w.last = f.eight(), f.eight(), f.four()
	}
	if !f.isWhole() {
		return session.Begin{}, api.ErrForm
	}
	if len(m.waits) == 0 || m.waits[0].nonce != w.client {
		return session.Begin{}, api.ErrStale
	}
	if g.kind == refuseKind {
		m.waits = nil
		return session.Begin{}, api.ErrNone
	}
	if w.session == 0 || w.epoch <= m.kept.Epoch || m.kept.Session != 0 && m.kept.Session != w.session {
		return session.Begin{}, api.ErrStale
	}
	m.kept = session.Kept{Session: w.session, Epoch: w.epoch, Token: w.token}
	m.waits = nil
	return session.Begin{
		Session: w.session,
		Epoch:   w.epoch,
		Last:    w.last,
		Up:      wayOf(0, w.session, w.epoch, w.client, w.server),
		Down:    wayOf(1, w.session, w.epoch, w.client, w.server),
	}, api.OK
}

// marks tells marks with which a server of session 5 may be made: new ones, some epochs on, and near the end of the epochs.
func marks() []session.Mark {
	const most = math.MaxUint32
	return []session.Mark{
		markOf(5, 0, 0), markOf(5, 1, 0), markOf(5, 3, 0), markOf(5, 3, 1), markOf(5, 3, 3), markOf(5, 4, 2),
		markOf(5, most-5, most-6), markOf(5, most-2, most-2), markOf(5, most-3, 0), markOf(5, most, 3),
	}
}
